import Derived.Test.YtbeohmcmphebhaaGreatDoorXRBb
import Derived.Test.YtbeohmcmphebhaaGreatDoorXRch
import Derived.Test.YtbeohmcmphebhaaGreatDoorXGPr
import Derived.Test.YtbeohmcmphebhaaGreatDoorXRuB
namespace Go.Proofs.YtbeohmcmphebhaaGreatDoor
open Go.RowKit
open Ex.nodes (nodesL)
set_option linter.unusedVariables false
theorem er_k (e : Ex) : e.er.k = e.k := by rw [er_eq]; rfl
theorem er_S (e : Ex) : e.er.S = e.S := by rw [er_eq]; rfl
theorem er_t (e : Ex) : e.er.t = e.t := by rw [er_eq]; rfl
theorem er_kids (e : Ex) : e.er.kids = e.kids.map Ex.er := by rw [er_eq]; rfl
theorem formOk_er (e : Ex) : formOk e.er = formOk e := by
  unfold formOk textOk setOk kidsOk
  rw [er_k, er_S, er_t, er_kids, List.length_map]
theorem nodes_er : ∀ (e : Ex) (d : Int), e.er.nodes d = (e.nodes d).map fun x => (x.1, x.2.er)
  | .mk k S t a c kids, d => by
    rw [nodes_eq, nodes_eq, List.map_cons, er_kids]
    exact congrArg (List.cons _) (go kids)
  where
  go : ∀ (l : List Ex) {d : Int}, nodesL d (l.map Ex.er) = (nodesL d l).map fun x => (x.1, x.2.er)
    | [], _ => by simp [nodesL]
    | e :: r, d => by rw [List.map_cons, nodesL, nodesL, List.map_append, nodes_er e d, go r]
theorem chk_er : ∀ (l : List (Int × Ex)) (n : Nat), chk n (l.map fun x => (x.1, x.2.er)) = chk n l
  | [], n => rfl
  | (d, x) :: r, n => by
    rw [List.map_cons, chk, chk, formOk_er, chk_er r]
theorem check_er (e : Ex) : check e.er = check e := by unfold check; rw [nodes_er, chk_er]
theorem refStep_er (acc : List ByteArray) (x : Int × Ex) : refStep acc (x.1, x.2.er) = refStep acc x := by unfold refStep; simp only [er_k, er_t]
theorem foldl_er : ∀ (l : List (Int × Ex)) (acc : List ByteArray), (l.map fun x => (x.1, x.2.er)).foldl refStep acc = l.foldl refStep acc
  | [], acc => rfl
  | x :: r, acc => by rw [List.map_cons, List.foldl_cons, List.foldl_cons, refStep_er, foldl_er r]
theorem refsR_er (e : Ex) : refsR e.er = refsR e := by unfold refsR refsOf; rw [check_er, nodes_er, foldl_er]
theorem sizeR_er (e : Ex) : sizeR e.er = sizeR e := by unfold sizeR; rw [check_er, nodes_er, List.length_map]
theorem fndF_er : ∀ (l : List Rl) (i : Nat) (s : ByteArray), fndF i (l.map er2) s = fndF i l s
  | [], i, s => rfl
  | r :: l, i, s => by rw [List.map_cons, fndF, fndF, fndF_er l]; rfl
theorem fnd_er (l : List Rl) : fnd (l.map er2) = fnd l := funext fun s => fndF_er l 0 s
theorem gcount_er : ∀ (l : List Rl), gcount (l.map er2) = gcount l
  | [] => rfl
  | r :: l => by rw [List.map_cons, gcount, gcount, gcount_er l]; show sizeR r.2.er + _ = _; rw [sizeR_er]
theorem ruleChk_er (all : List Rl) (i : Nat) (r : Rl) : ruleChk (all.map er2) i (er2 r) = ruleChk all i r := by
  unfold ruleChk
  rw [fnd_er]
  show (if isName r.1.data.toList = false then (6 : Int) else if fnd all r.1 ≠ (i : Int) then 7 else check r.2.er) = _
  rw [check_er]
theorem rulesChk_er (all : List Rl) : ∀ (l : List Rl) (i : Nat), rulesChk (all.map er2) i (l.map er2) = rulesChk all i l
  | [], i => rfl
  | r :: l, i => by rw [List.map_cons, rulesChk, rulesChk, ruleChk_er, rulesChk_er all l]
theorem named_er (all : List Rl) : ∀ (l : List Rl), named (all.map er2) (l.map er2) = named all l
  | [] => rfl
  | r :: l => by
    rw [List.map_cons, named, named, named_er all l]
    show (namedI (insR (all.map er2) r.2.er) && _) = _
    unfold insR
    rw [refsR_er, fnd_er]
theorem gcheck_er (l : List Rl) : gcheck (l.map er2) = gcheck l := by
  unfold gcheck
  rw [List.length_map, rulesChk_er, gcount_er, named_er]
/-- What Read tells: rules, a place, an error. -/
def gread (l : List UInt8) : List Rl × Int × Int :=
  if (rulR l).2.2 ≠ 0 then ([], (rulR l).2.1, (rulR l).2.2)
  else if gcheck (rulR l).1 ≠ 0 then ([], 0, gcheck (rulR l).1) else ((rulR l).1, 0, 0)
theorem Got.inn {T : ByteArray} {base : Nat} {W : World} {g cap : Nat} {l : List Rl} (h : Got T base W g l) (hT : T.size ≤ 2000) : Gr.In W.heap.size W ⟨some ⟨g, 0, none⟩, cap, l⟩ := by
  refine ⟨by show l.length ≤ _; have := h.len; omega, fun j r hr => ?_⟩
  obtain ⟨h1, h2, h3⟩ := h.rows j r hr
  refine ⟨⟨g, 0, rfl, h.lt, fun m hm => ?_⟩, by omega, h2.inn⟩
  rw [Nat.zero_add]; exact h1 m hm
theorem rules_ok (T : ByteArray) (w : World) (hmx : T.size ≤ 140737488355328) (h0 : (rulR T.data.toList).2.2 = 0) :
    Calls Tryz.prog 11 #[.string T] w fun e w' => Below w.heap.size w w' ∧ ∃ (g cap : Nat) (l : List Rl), e = .returned (.tuple #[.slice (some ⟨g, 0, none⟩) l.length cap, .int .i64 0, .int .i64 0]) ∧ (rulR T.data.toList).1 = l.map er2 ∧ T.size ≤ 2000 ∧ Got T w.heap.size w' g l := by
  refine (rules_any T w hmx).mono ?_
  rintro e w' ⟨hb, ⟨g, cap, l, he, hr, hT, G⟩ | ⟨a, c, he, hr, hc⟩⟩
  · exact ⟨hb, g, cap, l, he, by rw [hr], hT, G⟩
  · rw [hr] at h0; exact absurd h0 hc
theorem rules_no (T : ByteArray) (w : World) (hmx : T.size ≤ 140737488355328) (h0 : ¬ (rulR T.data.toList).2.2 = 0) :
    Calls Tryz.prog 11 #[.string T] w fun e w' => Below w.heap.size w w' ∧ e = .returned (.tuple #[.slice none 0 0, .int .i64 (rulR T.data.toList).2.1, .int .i64 (rulR T.data.toList).2.2]) := by
  refine (rules_any T w hmx).mono ?_
  rintro e w' ⟨hb, ⟨g, cap, l, he, hr, hT, G⟩ | ⟨a, c, he, hr, hc⟩⟩
  · rw [hr] at h0; exact absurd rfl h0
  · exact ⟨hb, by rw [he, hr]⟩
set_option maxRecDepth 20000 in
set_option maxHeartbeats 4000000 in
theorem read_ok (T : ByteArray) (w : World) (hmx : T.size ≤ 140737488355328) (h0 : (gread T.data.toList).2.2 = 0) :
    Calls Tryz.prog 6 #[.string T] w fun e w' => Below w.heap.size w w' ∧ ∃ g : Gr, e = .returned (.tuple #[.agg #[.slice g.a g.rules.length g.c], .int .i64 0, .int .i64 0]) ∧ (gread T.data.toList).1 = g.rules.map er2 ∧ (gread T.data.toList).2.1 = 0 ∧ gcheck g.rules = 0 ∧ g.In w'.heap.size w' := by
  have h1 : (rulR T.data.toList).2.2 = 0 := by
    by_cases h : (rulR T.data.toList).2.2 = 0
    · exact h
    · unfold gread at h0; rw [if_pos h] at h0; exact absurd h0 h
  have h2 : gcheck (rulR T.data.toList).1 = 0 := by
    by_cases h : gcheck (rulR T.data.toList).1 = 0
    · exact h
    · unfold gread at h0; rw [if_neg (by simpa using h1), if_pos h] at h0; exact absurd h0 h
  have h3 : gread T.data.toList = ((rulR T.data.toList).1, 0, 0) := by unfold gread; rw [if_neg (by simpa using h1), if_neg (by simpa using h2)]
  rw [h3]
  simp only
  have hA := (Below.refl w.heap.size w).alloc (Nat.le_refl _) (.cells #[.slice none 0 0] 24)
  have hru := rules_ok T (w.alloc (.cells #[.slice none 0 0] 24)) hmx h1
  have bR := BoxN.new w 24 #[.slice none 0 0]
  have HB : Hid (∀ {W}, Below (w.alloc (.cells #[.slice none 0 0] 24)).heap.size (w.alloc (.cells #[.slice none 0 0] 24)) W → Below w.heap.size w W ∧ BoxN W w.heap.size 24 #[.slice none 0 0]) := fun hb => ⟨hA.trans (hb.mono hA.size), bR.below hb (by simp)⟩
  clear hA bR hmx h0 h1 h3
  generalize (rulR T.data.toList).1 = rs at *
  have HK : Hid (∀ (l : List Rl) (g cap : Nat) (W1 : World), rs = l.map er2 → Gr.In W1.heap.size W1 ⟨some ⟨g, 0, none⟩, cap, l⟩ → Calls Tryz.prog 10 #[.agg #[.slice (some ⟨g, 0, none⟩) l.length cap]] (W1.alloc (.cells #[.slice (some ⟨g, 0, none⟩) l.length cap] 24)) fun r W' => r = .returned (.int .i64 0) ∧ Below (W1.alloc (.cells #[.slice (some ⟨g, 0, none⟩) l.length cap] 24)).heap.size (W1.alloc (.cells #[.slice (some ⟨g, 0, none⟩) l.length cap] 24)) W') := fun l g cap W1 hl hi => by
    have := gcheck_any ⟨some ⟨g, 0, none⟩, cap, l⟩ _ (hi.grow ((Below.refl _ W1).alloc (Nat.le_refl _) (.cells #[.slice (some ⟨g, 0, none⟩) l.length cap] 24)))
    have hz : gcheck l = 0 := by rw [← gcheck_er, ← hl]; exact h2
    rw [hz, gval_eq] at this
    exact this
  have HZ : Hid (∀ l : List Rl, rs = l.map er2 → gcheck l = 0) := fun l hl => by rw [← gcheck_er, ← hl]; exact h2
  clear h2
  go_enter Tryz.func6, Tryz.ntmps6
  go_wp2_with (first
    | (go_at_call 11; refine hru.mono ?_; clear hru; rintro e w1 ⟨hb1, g, cap, l, rfl, hr, hT2, G⟩; have k1 : Hid _ := HB.out hb1; have hgi := G.inn (cap := cap) hT2; have hck := HK.out l g cap w1 hr hgi; have HI : Hid _ := hgi; have bN := BoxN.new w1 24 #[.slice (some ⟨g, 0, none⟩) l.length cap]; clear hb1 HB HK hgi)
    | (go_at_call 10; refine hck.mono ?_; clear hck; rintro e w2 ⟨rfl, hb2⟩; have k2 : Hid (BoxN w2 w1.heap.size 24 #[.slice (some ⟨g, 0, none⟩) l.length cap] ∧ BoxN w2 w.heap.size 24 #[.slice none 0 0] ∧ Below w.heap.size w w2 ∧ Got T (w.heap.size + 1) w2 g l) := ⟨bN.below hb2 (by simp), (k1.out.2.alloc _).below hb2 (by have := k1.out.2.lt; simp; omega), (k1.out.1.alloc k1.out.1.size _).trans (hb2.mono (by have := k1.out.1.size; simp; omega)), ((G.low (base' := w.heap.size + 1) (by simp)).gr (gr_alloc (gr_refl w.heap.size w1) _) (by omega)).gr (gr_below (gr_refl w.heap.size _) hb2) (by omega)⟩; have c2 := k2.out.1.cell 0; have c3 := k2.out.2.1.cell 0; have f3 := k2.out.2.1.frozen 0; simp only [List.getElem?_toArray, List.getElem?_cons_zero] at c2 c3; clear hb2 bN))
  have k3 := box1_set k2.out.2.1 (.slice (some ⟨g, 0, none⟩) l.length cap)
  have k4 := k2.out.2.2.1.setCell (p := ⟨w.heap.size, 0, none⟩) (Nat.le_refl _) (.slice (some ⟨g, 0, none⟩) l.length cap)
  have c4 := k3.cell 0
  simp only [List.getElem?_toArray, List.getElem?_cons_zero] at c4
  have hG := k2.out.2.2.2.gr (grownBy_setCell' w2 w.heap.size (.slice (some ⟨g, 0, none⟩) l.length cap)) (by omega)
  exact bodyPost_ret (by simp [results, Tryz.results6, go_sem, c4]) rfl ⟨k4, ⟨some ⟨g, 0, none⟩, cap, l⟩, rfl, hr, trivial, HZ.out l hr, hG.inn hT2⟩
set_option maxRecDepth 20000 in
set_option maxHeartbeats 4000000 in
theorem read_no (T : ByteArray) (w : World) (hmx : T.size ≤ 140737488355328) (h0 : ¬ (gread T.data.toList).2.2 = 0) :
    Calls Tryz.prog 6 #[.string T] w fun e w' => Below w.heap.size w w' ∧ e = .returned (.tuple #[.agg #[.slice none 0 0], .int .i64 (gread T.data.toList).2.1, .int .i64 (gread T.data.toList).2.2]) := by
  have hA := (Below.refl w.heap.size w).alloc (Nat.le_refl _) (.cells #[.slice none 0 0] 24)
  have bR := BoxN.new w 24 #[.slice none 0 0]
  have HB : Hid (∀ {W}, Below (w.alloc (.cells #[.slice none 0 0] 24)).heap.size (w.alloc (.cells #[.slice none 0 0] 24)) W → Below w.heap.size w W ∧ BoxN W w.heap.size 24 #[.slice none 0 0]) := fun hb => ⟨hA.trans (hb.mono hA.size), bR.below hb (by simp)⟩
  by_cases h1 : (rulR T.data.toList).2.2 = 0
  · have hru := rules_ok T (w.alloc (.cells #[.slice none 0 0] 24)) hmx h1
    have h2 : ¬ gcheck (rulR T.data.toList).1 = 0 := fun h => h0 (by unfold gread; rw [if_neg (by simpa using h1), if_neg (by simpa using h)])
    have h3 : gread T.data.toList = ([], 0, gcheck (rulR T.data.toList).1) := by unfold gread; rw [if_neg (by simpa using h1), if_pos h2]
    rw [h3]
    simp only
    clear hA bR hmx h0 h1 h3
    generalize (rulR T.data.toList).1 = rs at *
    have g2 : (gcheck rs != 0) = true := by simpa using h2
    have HK : Hid (∀ (l : List Rl) (g cap : Nat) (W1 : World), rs = l.map er2 → Gr.In W1.heap.size W1 ⟨some ⟨g, 0, none⟩, cap, l⟩ → Calls Tryz.prog 10 #[.agg #[.slice (some ⟨g, 0, none⟩) l.length cap]] (W1.alloc (.cells #[.slice (some ⟨g, 0, none⟩) l.length cap] 24)) fun r W' => r = .returned (.int .i64 (gcheck rs)) ∧ Below (W1.alloc (.cells #[.slice (some ⟨g, 0, none⟩) l.length cap] 24)).heap.size (W1.alloc (.cells #[.slice (some ⟨g, 0, none⟩) l.length cap] 24)) W') := fun l g cap W1 hl hi => by
      have := gcheck_any ⟨some ⟨g, 0, none⟩, cap, l⟩ _ (hi.grow ((Below.refl _ W1).alloc (Nat.le_refl _) (.cells #[.slice (some ⟨g, 0, none⟩) l.length cap] 24)))
      have hz : gcheck l = gcheck rs := by rw [← gcheck_er, ← hl]
      rw [hz, gval_eq] at this
      exact this
    clear h2
    generalize gcheck rs = C at *
    go_enter Tryz.func6, Tryz.ntmps6
    go_wp2_with (first
      | (go_at_call 11; refine hru.mono ?_; clear hru; rintro e w1 ⟨hb1, g, cap, l, rfl, hr, hT2, G⟩; have k1 : Hid _ := HB.out hb1; have hgi := G.inn (cap := cap) hT2; have hck := HK.out l g cap w1 hr hgi; clear hb1 HB HK hgi G)
      | (go_at_call 10; refine hck.mono ?_; clear hck; rintro e w2 ⟨rfl, hb2⟩; have k2 : Hid (BoxN w2 w.heap.size 24 #[.slice none 0 0] ∧ Below w.heap.size w w2) := ⟨(k1.out.2.alloc _).below hb2 (by have := k1.out.2.lt; simp; omega), (k1.out.1.alloc k1.out.1.size _).trans (hb2.mono (by have := k1.out.1.size; simp; omega))⟩; have c3 := k2.out.1.cell 0; have f3 := k2.out.1.frozen 0; simp only [List.getElem?_toArray, List.getElem?_cons_zero] at c3; clear hb2))
    have k3 := box1_set k2.out.1 (.slice none 0 0)
    have k4 := k2.out.2.setCell (p := ⟨w.heap.size, 0, none⟩) (Nat.le_refl _) (.slice none 0 0)
    have c4 := k3.cell 0
    simp only [List.getElem?_toArray, List.getElem?_cons_zero] at c4
    exact bodyPost_ret (by simp [results, Tryz.results6, go_sem, c4]) rfl ⟨k4, rfl⟩
  · have hru := rules_no T (w.alloc (.cells #[.slice none 0 0] 24)) hmx h1
    have h3 : gread T.data.toList = ([], (rulR T.data.toList).2.1, (rulR T.data.toList).2.2) := by unfold gread; rw [if_pos h1]
    rw [h3]
    simp only
    have g2 : ((rulR T.data.toList).2.2 != 0) = true := by simpa using h1
    have g3 : ((rulR T.data.toList).2.2 == 0) = false := by simpa using h1
    clear hA bR hmx h0 h1 h3
    generalize (rulR T.data.toList).2.2 = C at *
    generalize (rulR T.data.toList).2.1 = A at *
    go_enter Tryz.func6, Tryz.ntmps6
    go_wp2_with (go_at_call 11; refine hru.mono ?_; clear hru; rintro e w1 ⟨hb1, rfl⟩; have k1 : Hid _ := HB.out hb1; have k2 : Hid (BoxN (w1.alloc (.cells #[.slice none 0 0] 24)) w.heap.size 24 #[.slice none 0 0] ∧ Below w.heap.size w (w1.alloc (.cells #[.slice none 0 0] 24))) := ⟨k1.out.2.alloc _, k1.out.1.alloc k1.out.1.size _⟩; have c3 := k2.out.1.cell 0; have f3 := k2.out.1.frozen 0; simp only [List.getElem?_toArray, List.getElem?_cons_zero] at c3; clear hb1 HB)
    have k3 := box1_set k2.out.1 (.slice none 0 0)
    have k4 := k2.out.2.setCell (p := ⟨w.heap.size, 0, none⟩) (Nat.le_refl _) (.slice none 0 0)
    have c4 := k3.cell 0
    simp only [List.getElem?_toArray, List.getElem?_cons_zero] at c4
    exact bodyPost_ret (by simp [results, Tryz.results6, go_sem, c4]) rfl ⟨k4, rfl⟩
end Go.Proofs.YtbeohmcmphebhaaGreatDoor
namespace Go.Proofs.YtbeohmcmphebhaaGreatDoor
set_option linter.unusedVariables false
/-! A grammar that is printed is read as it was. -/
theorem name_form {l : List UInt8} (h : isName l = true) : ∃ c t, l = c :: t ∧ isL (c.toNat : Int) = true ∧ ∀ x ∈ c :: t, okc x = true := by
  unfold isName at h
  simp only [Bool.and_eq_true] at h
  obtain ⟨⟨h1, h2⟩, _⟩ := h
  cases l with
  | nil => simp at h2
  | cons c t =>
    simp only [part, Bool.and_eq_true, List.all_eq_true] at h1
    refine ⟨c, t, rfl, h1.1, fun x hx => ?_⟩
    rcases List.mem_cons.1 hx with rfl | hx
    · unfold okc; rw [h1.1]; rfl
    · exact h1.2 x hx
theorem line_eq (r : Rl) : line r = r.1.data.toList ++ (32 :: 60 :: 45 :: 32 :: (r.2.pr ++ [10])) := by
  unfold line; simp
theorem gpr_cons (r : Rl) (l : List Rl) : gpr (r :: l) = r.1.data.toList ++ (32 :: 60 :: 45 :: 32 :: (r.2.pr ++ (10 :: gpr l))) := by
  rw [show gpr (r :: l) = line r ++ gpr l from rfl, line_eq]; simp
/-- A rule that is right by itself. -/
def rOk (r : Rl) : Prop := isName r.1.data.toList = true ∧ r.2.okA = true
theorem tok_line (r : Rl) (h : rOk r) (z : List UInt8) : tok (r.1.data.toList ++ (32 :: 60 :: 45 :: 32 :: z)) = ⟨3, r.1.data.toList ++ (32 :: 60 :: 45 :: 32 :: z), 32 :: z, lfT 4 r.1.data.toList⟩ := by
  obtain ⟨c, t, hl, hc, hall⟩ := name_form h.1
  rw [hl]
  have hsk : skip (32 :: 60 :: 45 :: 32 :: z) = 60 :: 45 :: 32 :: z := by
    rw [skip_blank 32 _ rfl, skip_cons 60 _ (by decide) (by decide)]
  have := tok_head c t (32 :: 60 :: 45 :: 32 :: z) hc hall (nok32 _) (by unfold Arw; rw [hsk]; exact ⟨rfl, rfl⟩)
  rw [hsk] at this
  exact this
theorem tok_k (l : List Rl) (h : ∀ r ∈ l, rOk r) : (l = [] ∧ tok (gpr l) = ⟨0, [], [], nd 0 []⟩) ∨ (l ≠ [] ∧ (tok (gpr l)).k = 3) := by
  cases l with
  | nil => exact .inl ⟨rfl, rfl⟩
  | cons r l =>
    right
    rw [gpr_cons, tok_line r (h r List.mem_cons_self)]
    exact ⟨by simp, rfl⟩
theorem c0_line (l : List Rl) (h : ∀ r ∈ l, rOk r) : c0 (10 :: gpr l) := by
  unfold c0 c1 c2 ok3 nokA
  rw [tok_blank10]
  have hk : (tok (gpr l)).k = 0 ∨ (tok (gpr l)).k = 3 := by
    rcases tok_k l h with ⟨_, h1⟩ | ⟨_, h1⟩
    · left; rw [h1]
    · exact .inr h1
  have hn : nok (10 :: gpr l) := fun c s e => by cases e; decide
  rcases hk with hk | hk <;> rw [hk] <;> exact ⟨⟨⟨by decide, ⟨hn, by decide⟩, by decide⟩, by decide⟩, by decide⟩
theorem ruleP_line (n : Nat) (r : Rl) (l : List Rl) (h : ∀ x ∈ r :: l, rOk x) (hn : (gpr (r :: l)).length < n) : ruleP (preP n) (tok (gpr (r :: l))) = .ok (er2 r, tok (gpr l)) := by
  rw [gpr_cons] at hn ⊢
  rw [tok_line r (h r List.mem_cons_self)]
  have h0 := p0_all r.2 (h r List.mem_cons_self).2 n (10 :: gpr l) (c0_line l (fun x hx => h x (List.mem_cons_of_mem _ hx))) (by simp at hn ⊢; omega)
  unfold ruleP
  rw [if_pos rfl, take_tk (show ok3 (32 :: (r.2.pr ++ (10 :: gpr l))) from by unfold ok3; rw [tok_blank]; exact begins_ok3 (altP_begins h0)), thn_ok, tok_blank, h0, thn_ok, tok_blank10]
  show Except.ok ((_, _), _) = _
  unfold er2
  rw [show (lfT 4 r.1.data.toList).t = r.1 from ba_of_list r.1]
theorem rulesL_lines (n : Nat) : ∀ (l : List Rl) (m : Nat) (acc : List Rl), (∀ x ∈ l, rOk x) → (gpr l).length < n → (tok (gpr l)).s.length ≤ m → rulesL (preP n) m acc (tok (gpr l)) = .ok (acc ++ l.map er2, tok [])
  | [], m, acc, _, _, _ => by
    have e : gpr [] = [] := rfl
    rw [e]
    simp only [List.map_nil, List.append_nil]
    cases m with
    | zero => rfl
    | succ m => rw [rulesL, if_pos (show (tok []).k = 0 from rfl)]
  | r :: l, m, acc, h, hn, hm => by
    have hk : (tok (gpr (r :: l))).k = 3 := by
      rcases tok_k (r :: l) h with ⟨h1, _⟩ | ⟨_, h1⟩
      · cases h1
      · exact h1
    cases m with
    | zero =>
      exfalso
      have h1 : (tok (gpr (r :: l))).s = [] := List.eq_nil_of_length_eq_zero (by omega)
      unfold tok at h1
      rw [tokS_s] at h1
      have h2 : (tok (gpr (r :: l))).k = 0 := by unfold tok; rw [h1]; rfl
      rw [hk] at h2; revert h2; decide
    | succ m =>
      rw [rulesL, if_neg (by rw [hk]; decide), ruleP_line n r l h hn, thn_ok]
      have hl : (gpr l).length < (gpr (r :: l)).length := by rw [gpr_cons]; simp; omega
      have hs : (tok (gpr (r :: l))).s.length = (gpr (r :: l)).length := by rw [gpr_cons, tok_line r (h r List.mem_cons_self)]
      rw [rulesL_lines n l m (acc ++ [er2 r]) (fun x hx => h x (List.mem_cons_of_mem _ hx)) (by omega) (by have := tok_len (gpr l); omega)]
      simp
theorem readG_pr (r : Rl) (l : List Rl) (h : ∀ x ∈ r :: l, rOk x) : readG (gpr (r :: l)) = .ok ((r :: l).map er2) := by
  have hk : (tok (gpr (r :: l))).k = 3 := by
    rcases tok_k (r :: l) h with ⟨h1, _⟩ | ⟨_, h1⟩
    · cases h1
    · exact h1
  unfold readG takeL
  rw [if_neg (by rw [hk]; decide), thn_ok]
  unfold rulesP
  rw [ruleP_line _ r l h (by omega), thn_ok]
  have hl : (gpr l).length < (gpr (r :: l)).length := by rw [gpr_cons]; simp; omega
  rw [rulesL_lines _ l _ [er2 r] (fun x hx => h x (List.mem_cons_of_mem _ hx)) (by omega) (Nat.le_refl _), thn_ok]
  simp only
  rw [if_pos (show (tok []).k = 0 from rfl)]
  rfl
/-- Of a grammar that is right. -/
theorem read_pr (all : List Rl) (hok : GOk all) : readG (gpr all) = .ok (all.map er2) := by
  have hr : ∀ x ∈ all, rOk x := fun x hx => by
    obtain ⟨i, hi⟩ := List.getElem?_of_mem hx
    obtain ⟨h1, _, h3⟩ := ruleChk_zero (hok.rules i x hi)
    exact ⟨h1, okA_check x.2 h3⟩
  cases all with
  | nil => have := hok.pos; simp at this
  | cons r l => exact readG_pr r l hr
end Go.Proofs.YtbeohmcmphebhaaGreatDoor
namespace Go.Proofs.YtbeohmcmphebhaaGreatDoor
open Go.RowKit
set_option linter.unusedVariables false
def lit1 : ByteArray := ⟨#[65, 32, 60, 45, 32, 66, 10, 66, 60, 45, 39, 98, 39]⟩
def lit2 : ByteArray := ⟨#[65, 32, 60, 45, 32, 66, 32, 60, 45, 32, 39, 98, 39]⟩
set_option maxRecDepth 100000 in
theorem lit2_read : (gread lit2.data.toList).2.2 = 4 ∧ (gread lit2.data.toList).2.1 = 5 := by decide +kernel
set_option maxRecDepth 100000 in
theorem lit1_read : (gread lit1.data.toList).2.2 = 0 ∧ (gread lit1.data.toList).1.length = 2 := by decide +kernel
theorem gread_pr (all : List Rl) (h : gcheck all = 0) (hl : (gpr all).length ≤ 2000) : gread (gpr all) = (all.map er2, 0, 0) := by
  have hr : rulR (gpr all) = (all.map er2, 0, 0) := by unfold rulR; rw [if_neg (by omega), read_pr all (gcheck_ok h)]
  unfold gread
  rw [hr]
  simp only
  rw [if_neg (by simp), if_neg (by rw [gcheck_er, h]; simp)]
theorem gread_large (l : List UInt8) (hl : 2000 < l.length) : gread l = ([], 0, 2) := by
  have hr : rulR l = ([], 0, 2) := by unfold rulR; rw [if_pos hl]
  unfold gread
  rw [hr]
  simp only
  rw [if_pos (by decide)]
theorem gpr_all_le {all : List Rl} (hok : GOk all) : (gpr all).length ≤ 1801000 := by
  have h1 := gpr_le hok all.length (Nat.le_refl _)
  rw [List.take_length] at h1
  have := hok.most
  omega
theorem readLit1 (w : World) : Calls Tryz.prog 6 #[.string ⟨#[65, 32, 60, 45, 32, 66, 10, 66, 60, 45, 39, 98, 39]⟩] w fun e w' => Below w.heap.size w w' ∧ ∃ (a : Option Addr) (c : Nat), e = .returned (.tuple #[.agg #[.slice a 2 c], .int .i64 0, .int .i64 0]) := by
  refine (read_ok lit1 w (by decide) lit1_read.1).mono ?_
  rintro e w' ⟨hb, g, he, h1, _⟩
  have hl : g.rules.length = 2 := by
    have h2 := lit1_read.2
    rw [h1, List.length_map] at h2
    exact h2
  exact ⟨hb, g.a, g.c, by rw [he, hl]⟩
theorem readLit2 (w : World) : Calls Tryz.prog 6 #[.string ⟨#[65, 32, 60, 45, 32, 66, 32, 60, 45, 32, 39, 98, 39]⟩] w fun e w' => Below w.heap.size w w' ∧ e = .returned (.tuple #[.agg #[.slice none 0 0], .int .i64 5, .int .i64 4]) := by
  refine (read_no lit2 w (by decide) (by rw [lit2_read.1]; decide)).mono ?_
  rintro e w' ⟨hb, he⟩
  rw [lit2_read.1, lit2_read.2] at he
  exact ⟨hb, he⟩
set_option maxRecDepth 20000 in
set_option maxHeartbeats 8000000 in
theorem gramBack_any (g : Gr) (w : World) (hin : g.In w.heap.size w) :
    Calls Tryz.prog 4 #[g.val] w fun r W' => r = .returned (.bool true) ∧ Below w.heap.size w W' := by
  have hA := (Below.refl w.heap.size w).alloc (Nat.le_refl _) (.cells #[.slice g.a g.rules.length g.c] 24)
  have bG := BoxN.new w 24 #[.slice g.a g.rules.length g.c]
  have HN : Hid (∀ {W}, Below (w.alloc (.cells #[.slice g.a g.rules.length g.c] 24)).heap.size (w.alloc (.cells #[.slice g.a g.rules.length g.c] 24)) W → Below w.heap.size w W ∧ BoxN W w.heap.size 24 #[.slice g.a g.rules.length g.c]) := fun h => ⟨hA.trans (h.mono hA.size), bG.below h (by simp)⟩
  have HS : Hid (∀ {W W2 : World}, Below w.heap.size w W ∧ BoxN W w.heap.size 24 #[.slice g.a g.rules.length g.c] → Below W.heap.size W W2 → Below w.heap.size w W2 ∧ BoxN W2 w.heap.size 24 #[.slice g.a g.rules.length g.c]) := fun h hb => ⟨h.1.trans (hb.mono h.1.size), h.2.below hb h.2.lt⟩
  have hlt := readLit1 (w.alloc (.cells #[.slice g.a g.rules.length g.c] 24))
  have hpr : ∀ W, Below w.heap.size w W → _ := fun W h => gprint_any g W (hin.grow h)
  have HI : Hid (g.In w.heap.size w) := hin
  unfold gprR at hpr
  rw [gval_eq] at hpr ⊢
  clear hA bG
  by_cases h0 : gcheck g.rules = 0
  · have hok := gcheck_ok h0
    have hle := gpr_all_le hok
    obtain ⟨T, hT⟩ : ∃ T : ByteArray, T = ⟨(gpr g.rules).toArray⟩ := ⟨_, rfl⟩
    have hTd : T.data.toList = gpr g.rules := by rw [hT]
    have hTs : T.size = (gpr g.rules).length := by rw [← hTd]; exact (llen T).symm
    simp only [h0, ↓reduceIte] at hpr
    rw [← hT] at hpr
    by_cases hL : T.size ≤ 2000
    · have hgr := gread_pr g.rules h0 (by omega)
      rw [← hTd] at hgr
      have hrd : ∀ W, _ := fun W => read_ok T W (by omega) (by rw [hgr])
      rw [hgr] at hrd
      simp only at hrd
      have HSa : Hid (∀ (h : Gr) (W : World), g.rules.map er2 = h.rules.map er2 → g.In W.heap.size W → h.In W.heap.size W → Calls Tryz.prog 8 #[.agg #[.slice g.a g.rules.length g.c], .agg #[.slice h.a h.rules.length h.c]] W fun r w' => r = .returned (.bool true) ∧ Below W.heap.size W w') := fun h W he h1 h2 => sameG_any g h he W h1 h2
      have g1 : decide ((2000 : Int) < (T.size : Int)) = false := decide_eq_false (by omega)
      clear hT hTd hTs hgr hin hok h0 hle
      go_enter Tryz.func4, Tryz.ntmps4
      go_wp2_with (first
        | (go_at_call 6; refine hlt.mono ?_; clear hlt; rintro e W1 ⟨hb1, a1, cp1, rfl⟩; have k1 := HN.out hb1; have k2 := HS.out k1 ((Below.refl _ W1).alloc (Nat.le_refl _) (.cells #[.slice a1 2 cp1] 24)); have c2 := k2.2.cell 0; simp only [List.getElem?_toArray, List.getElem?_cons_zero] at c2; have hp2 := hpr _ k2.1; clear hb1 hpr HN)
        | (go_at_call 9; refine hp2.mono ?_; clear hp2; rintro e W3 ⟨rfl, hb3⟩; have k3 := HS.out k2 hb3; have hr3 := hrd W3; clear hb3 c2 hrd)
        | (go_at_call 6; refine hr3.mono ?_; clear hr3; rintro e W4 ⟨hb4, h, rfl, he, -, hc4, hi4⟩; have k4 := HS.out k3 hb4; have k5 := HS.out k4 ((Below.refl _ W4).alloc (Nat.le_refl _) (.cells #[.slice h.a h.rules.length h.c] 24)); have c5 := k5.2.cell 0; simp only [List.getElem?_toArray, List.getElem?_cons_zero] at c5; have hs5 := HSa.out h _ he (HI.out.grow k5.1) (hi4.grow ((Below.refl _ W4).alloc (Nat.le_refl _) (.cells #[.slice h.a h.rules.length h.c] 24))); clear hb4 HSa)
        | (go_at_call 8; refine hs5.mono ?_; clear hs5; rintro e W6 ⟨rfl, hb6⟩; have k6 := HS.out k5 hb6))
      go_ret
      exact ⟨rfl, k6.1⟩
    · have hgr := gread_large T.data.toList (by rw [llen]; omega)
      have hrd : ∀ W, _ := fun W => read_no T W (by omega) (by rw [hgr]; decide)
      rw [hgr] at hrd
      simp only at hrd
      have g1 : decide ((2000 : Int) < (T.size : Int)) = true := decide_eq_true (by omega)
      clear hT hTd hTs hgr hin hok h0 hle
      go_enter Tryz.func4, Tryz.ntmps4
      go_wp2_with (first
        | (go_at_call 6; refine hlt.mono ?_; clear hlt; rintro e W1 ⟨hb1, a1, cp1, rfl⟩; have k1 := HN.out hb1; have k2 := HS.out k1 ((Below.refl _ W1).alloc (Nat.le_refl _) (.cells #[.slice a1 2 cp1] 24)); have c2 := k2.2.cell 0; simp only [List.getElem?_toArray, List.getElem?_cons_zero] at c2; have hp2 := hpr _ k2.1; clear hb1 hpr HN)
        | (go_at_call 9; refine hp2.mono ?_; clear hp2; rintro e W3 ⟨rfl, hb3⟩; have k3 := HS.out k2 hb3; have hr3 := hrd W3; clear hb3 c2 hrd)
        | (go_at_call 6; refine hr3.mono ?_; clear hr3; rintro e W4 ⟨hb4, rfl⟩; have k4 := HS.out k3 hb4; clear hb4))
      go_ret
      exact ⟨rfl, (HS.out k4 ((Below.refl _ W4).alloc (Nat.le_refl _) _)).1⟩
  · have g2 : (gcheck g.rules != 0) = true := by simpa using h0
    have hcc : (gcheck g.rules == gcheck g.rules) = true := by simp
    simp only [h0, ↓reduceIte] at hpr
    have hck : ∀ W, Below w.heap.size w W → _ := fun W h => gcheck_any g W (hin.grow h)
    rw [gval_eq] at hck
    generalize gcheck g.rules = C at *
    clear h0 hin
    go_enter Tryz.func4, Tryz.ntmps4
    go_wp2_with (first
      | (go_at_call 6; refine hlt.mono ?_; clear hlt; rintro e W1 ⟨hb1, a1, cp1, rfl⟩; have k1 := HN.out hb1; have k2 := HS.out k1 ((Below.refl _ W1).alloc (Nat.le_refl _) (.cells #[.slice a1 2 cp1] 24)); have c2 := k2.2.cell 0; simp only [List.getElem?_toArray, List.getElem?_cons_zero] at c2; have hp2 := hpr _ k2.1; clear hb1 hpr HN)
      | (go_at_call 9; refine hp2.mono ?_; clear hp2; rintro e W3 ⟨rfl, hb3⟩; have k3 := HS.out k2 hb3; have c3 := k3.2.cell 0; simp only [List.getElem?_toArray, List.getElem?_cons_zero] at c3; have hc3 := hck W3 k3.1; clear hb3 c2 hck)
      | (go_at_call 10; refine hc3.mono ?_; clear hc3; rintro e W4 ⟨rfl, hb4⟩; have k4 := HS.out k3 hb4; clear hb4))
    go_ret
    exact ⟨by simp, k4.1⟩
end Go.Proofs.YtbeohmcmphebhaaGreatDoor
namespace Go.Proofs.YtbeohmcmphebhaaGreatDoor
open Go.RowKit
set_option linter.unusedVariables false
theorem rulesL_suf {T : List UInt8} (n : Nat) : ∀ (m : Nat) (acc : List Rl) (t : Tk), t.of T → t.s.length < n → (match rulesL (preP n) m acc t with | .ok x => x.2.of T | .error s => s <:+ T)
  | 0, acc, t, ht, _ => ht
  | m + 1, acc, t, ht, hn => by
    rw [rulesL]
    split
    · rename_i h1
      split at h1
      · cases h1; exact ht
      · have h2 := ruleP_fine n t ht hn
        cases hp : ruleP (preP n) t with
        | error s => rw [hp, thn_error] at h1; cases h1
        | ok x =>
          rw [hp] at h1 h2
          rw [thn_ok] at h1
          have h3 := rulesL_suf n m (acc ++ [x.1]) x.2 h2.1 (by have := h2.2; omega)
          rw [h1] at h3
          exact h3
    · rename_i h1
      split at h1
      · cases h1
      · have h2 := ruleP_fine n t ht hn
        cases hp : ruleP (preP n) t with
        | error s => rw [hp, thn_error] at h1; rw [hp] at h2; cases h1; exact h2
        | ok x =>
          rw [hp] at h1 h2
          rw [thn_ok] at h1
          have h3 := rulesL_suf n m (acc ++ [x.1]) x.2 h2.1 (by have := h2.2; omega)
          rw [h1] at h3
          exact h3
theorem readG_suf (l s : List UInt8) (h : readG l = .error s) : s <:+ l := by
  unfold readG at h
  cases ht : takeL l with
  | error q =>
    rw [ht, thn_error] at h
    cases h
    unfold takeL at ht
    split at ht
    · cases ht
      unfold tok
      rw [tokS_s]
      exact skip_suf l
    · cases ht
  | ok t =>
    rw [ht, thn_ok] at h
    obtain ⟨hof, hts⟩ := takeL_of l t ht
    unfold rulesP at h
    have h1 := ruleP_fine (l.length + 1) t hof (by omega)
    cases hp : ruleP (preP (l.length + 1)) t with
    | error q => rw [hp, thn_error, thn_error] at h; rw [hp] at h1; cases h; exact h1
    | ok x =>
      rw [hp] at h h1
      rw [thn_ok] at h
      have h2 := rulesL_suf (l.length + 1) x.2.s.length [x.1] x.2 h1.1 (by have := h1.2; omega)
      cases hr : rulesL (preP (l.length + 1)) x.2.s.length [x.1] x.2 with
      | error q => rw [hr, thn_error] at h; rw [hr] at h2; cases h; exact h2
      | ok y =>
        rw [hr, thn_ok] at h
        rw [hr] at h2
        split at h
        · cases h
        · cases h; exact h2.2.1
theorem gread_at (l : List UInt8) : 0 ≤ (gread l).2.1 ∧ (gread l).2.1 ≤ l.length := by
  have hr : 0 ≤ (rulR l).2.1 ∧ (rulR l).2.1 ≤ l.length := by
    unfold rulR
    split
    · exact ⟨Int.le_refl _, by show (0 : Int) ≤ _; omega⟩
    · split
      · exact ⟨Int.le_refl _, by show (0 : Int) ≤ _; omega⟩
      · rename_i s hs
        have := (readG_suf l s hs).length_le
        show 0 ≤ (l.length : Int) - s.length ∧ (l.length : Int) - s.length ≤ l.length
        omega
  unfold gread
  split
  · exact hr
  · split
    · exact ⟨Int.le_refl _, by show (0 : Int) ≤ _; omega⟩
    · exact ⟨Int.le_refl _, by show (0 : Int) ≤ _; omega⟩
set_option maxRecDepth 20000 in
set_option maxHeartbeats 8000000 in
theorem gramAgain_any (s : ByteArray) (w : World) (hs : s.size ≤ 140737488355328) :
    Calls Tryz.prog 5 #[.string s] w fun r W' => r = .returned (.bool true) ∧ Below w.heap.size w W' := by
  have hlt := readLit2 w
  have hat := gread_at s.data.toList
  rw [llen] at hat
  by_cases h0 : (gread s.data.toList).2.2 = 0
  · have hrd : ∀ W, _ := fun W => read_ok s W hs h0
    have hz : ∀ W : World, True := fun _ => trivial
    have HP : Hid (∀ (g : Gr) (W : World), gcheck g.rules = 0 → g.In W.heap.size W → Calls Tryz.prog 9 #[.agg #[.slice g.a g.rules.length g.c]] W fun r W' => r = .returned (.tuple #[.string ⟨(gpr g.rules).toArray⟩, .int .i64 0]) ∧ Below W.heap.size W W') := fun g W hg hi => by
      have := gprint_any g W hi
      unfold gprR at this
      rw [hg, if_pos rfl, gval_eq] at this
      exact this
    have HR : Hid (∀ (g : Gr) (W : World) (T : ByteArray), gcheck g.rules = 0 → T = ⟨(gpr g.rules).toArray⟩ → T.size ≤ 2000 → Calls Tryz.prog 6 #[.string T] W fun e w' => Below W.heap.size W w' ∧ ∃ h : Gr, e = .returned (.tuple #[.agg #[.slice h.a h.rules.length h.c], .int .i64 0, .int .i64 0]) ∧ g.rules.map er2 = h.rules.map er2 ∧ h.In w'.heap.size w') := fun g W T hg hT hL => by
      have hTd : T.data.toList = gpr g.rules := by rw [hT]
      have hgr := gread_pr g.rules hg (by rw [← hTd, llen]; exact hL)
      rw [← hTd] at hgr
      refine (read_ok T W (by omega) (by rw [hgr])).mono ?_
      rintro e w' ⟨hb, h, he, h1, _, _, h2⟩
      rw [hgr] at h1
      exact ⟨hb, h, he, h1, h2⟩
    have HL : Hid (∀ (W : World) (T : ByteArray), T.size ≤ 140737488355328 → 2000 < T.size → Calls Tryz.prog 6 #[.string T] W fun e w' => Below W.heap.size W w' ∧ e = .returned (.tuple #[.agg #[.slice none 0 0], .int .i64 0, .int .i64 2])) := fun W T hT hL => by
      have hgr := gread_large T.data.toList (by rw [llen]; exact hL)
      refine (read_no T W hT (by rw [hgr]; decide)).mono ?_
      rintro e w' ⟨hb, he⟩
      rw [hgr] at he
      exact ⟨hb, he⟩
    have HSa : Hid (∀ (g h : Gr) (W : World), g.rules.map er2 = h.rules.map er2 → g.In W.heap.size W → h.In W.heap.size W → Calls Tryz.prog 8 #[.agg #[.slice g.a g.rules.length g.c], .agg #[.slice h.a h.rules.length h.c]] W fun r w' => r = .returned (.bool true) ∧ Below W.heap.size W w') := fun g h W he h1 h2 => sameG_any g h he W h1 h2
    clear h0 hat
    go_enter Tryz.func5, Tryz.ntmps5
    go_wp2_with (first
      | (go_at_call 6; refine hlt.mono ?_; clear hlt; rintro e W1 ⟨hb1, rfl⟩; have k1 := hb1.alloc hb1.size (.cells #[.slice none 0 0] 24); have hr1 := hrd (W1.alloc (.cells #[.slice none 0 0] 24)); clear hrd hb1)
      | (go_at_call 6; refine hr1.mono ?_; clear hr1; rintro e W2 ⟨hb2, g, rfl, -, -, hg0, hgi⟩; have k2 := k1.trans (hb2.mono k1.size); have k3 := k2.alloc k2.size (.cells #[.slice g.a g.rules.length g.c] 24); have hA2 := (Below.refl _ W2).alloc (Nat.le_refl _) (.cells #[.slice g.a g.rules.length g.c] 24); have bG := BoxN.new W2 24 #[.slice g.a g.rules.length g.c]; have hp := HP.out g _ hg0 (hgi.grow hA2); have HGI : Hid (g.In (W2.alloc (.cells #[.slice g.a g.rules.length g.c] 24)).heap.size (W2.alloc (.cells #[.slice g.a g.rules.length g.c] 24))) := hgi.grow hA2; clear hb2 hgi hA2 HP))
    have HB : Hid (∀ {W}, Below (W2.alloc (.cells #[.slice g.a g.rules.length g.c] 24)).heap.size (W2.alloc (.cells #[.slice g.a g.rules.length g.c] 24)) W → Below w.heap.size w W ∧ BoxN W W2.heap.size 24 #[.slice g.a g.rules.length g.c] ∧ g.In W.heap.size W) := fun h => ⟨k3.trans (h.mono k3.size), bG.below h (by simp), HGI.out.grow h⟩
    have HN : Hid (∀ {W W' : World}, Below w.heap.size w W ∧ BoxN W W2.heap.size 24 #[.slice g.a g.rules.length g.c] ∧ g.In W.heap.size W → Below W.heap.size W W' → Below w.heap.size w W' ∧ BoxN W' W2.heap.size 24 #[.slice g.a g.rules.length g.c] ∧ g.In W'.heap.size W') := fun h hb => ⟨h.1.trans (hb.mono h.1.size), h.2.1.below hb h.2.1.lt, h.2.2.grow hb⟩
    have hle := gpr_all_le (gcheck_ok hg0)
    obtain ⟨T, hT⟩ : ∃ T : ByteArray, T = ⟨(gpr g.rules).toArray⟩ := ⟨_, rfl⟩
    have hTs : T.size = (gpr g.rules).length := by
      have hTd : T.data.toList = gpr g.rules := by rw [hT]
      rw [← hTd]; exact (llen T).symm
    rw [← hT] at hp
    by_cases hL : T.size ≤ 2000
    · have hr4 : ∀ W, _ := fun W => HR.out g W T hg0 hT hL
      have g1 : decide ((2000 : Int) < (T.size : Int)) = false := decide_eq_false (by omega)
      clear HR HL hT hTs hle bG HGI k1 k2 k3 hL
      go_wp2_with (first
        | (go_at_call 9; refine hp.mono ?_; clear hp; rintro e W3 ⟨rfl, hb3⟩; have q3 := HB.out hb3; clear hb3 HB)
        | (go_at_call 6; refine (hr4 _).mono ?_; clear hr4; rintro e W4 ⟨hb4, h, rfl, he, hi4⟩; have q4 := HN.out q3 hb4; have q5 := HN.out q4 ((Below.refl _ W4).alloc (Nat.le_refl _) (.cells #[.slice h.a h.rules.length h.c] 24)); have c5 := q5.2.1.cell 0; simp only [List.getElem?_toArray, List.getElem?_cons_zero] at c5; have hs5 := HSa.out g h _ he q5.2.2 (hi4.grow ((Below.refl _ W4).alloc (Nat.le_refl _) (.cells #[.slice h.a h.rules.length h.c] 24))); clear hb4 HSa)
        | (go_at_call 8; refine hs5.mono ?_; clear hs5; rintro e W6 ⟨rfl, hb6⟩; have q6 := HN.out q5 hb6))
      go_ret
      exact ⟨rfl, q6.1⟩
    · have hr4 : ∀ W, _ := fun W => HL.out W T (by omega) (by omega)
      have g1 : decide ((2000 : Int) < (T.size : Int)) = true := decide_eq_true (by omega)
      clear HR HL hT hTs hle bG HGI k1 k2 k3 hL HSa
      go_wp2_with (first
        | (go_at_call 9; refine hp.mono ?_; clear hp; rintro e W3 ⟨rfl, hb3⟩; have q3 := HB.out hb3; clear hb3 HB)
        | (go_at_call 6; refine (hr4 _).mono ?_; clear hr4; rintro e W4 ⟨hb4, rfl⟩; have q4 := HN.out q3 hb4; have q5 := HN.out q4 ((Below.refl _ W4).alloc (Nat.le_refl _) (.cells #[.slice none 0 0] 24)); clear hb4))
      go_ret
      exact ⟨rfl, q5.1⟩
  · have hrd : ∀ W, _ := fun W => read_no s W hs h0
    have g2 : ((gread s.data.toList).2.2 != 0) = true := by simpa using h0
    have g3 : decide (0 ≤ (gread s.data.toList).2.1) = true := decide_eq_true hat.1
    have g4 : decide ((gread s.data.toList).2.1 ≤ (s.size : Int)) = true := decide_eq_true hat.2
    generalize (gread s.data.toList).2.2 = C at *
    generalize (gread s.data.toList).2.1 = A at *
    clear h0 hat
    go_enter Tryz.func5, Tryz.ntmps5
    go_wp2_with (first
      | (go_at_call 6; refine hlt.mono ?_; clear hlt; rintro e W1 ⟨hb1, rfl⟩; have k1 := hb1.alloc hb1.size (.cells #[.slice none 0 0] 24); have hr1 := hrd (W1.alloc (.cells #[.slice none 0 0] 24)); clear hrd hb1)
      | (go_at_call 6; refine hr1.mono ?_; clear hr1; rintro e W2 ⟨hb2, rfl⟩; have k2 := k1.trans (hb2.mono k1.size); have k3 := k2.alloc k2.size (.cells #[.slice none 0 0] 24); clear hb2))
    go_ret
    exact ⟨rfl, k3⟩
end Go.Proofs.YtbeohmcmphebhaaGreatDoor
