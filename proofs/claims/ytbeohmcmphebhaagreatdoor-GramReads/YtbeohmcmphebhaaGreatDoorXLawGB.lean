import Derived.Test.YtbeohmcmphebhaaGreatDoorXSameG
import Derived.Test.YtbeohmcmphebhaaGreatDoorXRch
import Derived.Test.YtbeohmcmphebhaaGreatDoorXRSc
import Derived.Test.YtbeohmcmphebhaaGreatDoorXRBb
import Derived.Test.YtbeohmcmphebhaaGreatDoorXGPr
import Derived.Test.YtbeohmcmphebhaaGreatDoorXRuB
namespace Go.Proofs.YtbeohmcmphebhaaGreatDoor
open Go.RowKit
open Ex.nodes (nodesL)
set_option linter.unusedVariables false
theorem er_k (e : Ex) : e.er.k = e.k := by rw [er_eq]; rfl
theorem er_S (e : Ex) : e.er.S = e.S := by rw [er_eq]; rfl
theorem er_t (e : Ex) : e.er.t = e.t := by rw [er_eq]; rfl
theorem er_kids (e : Ex) : e.er.kids = e.kids.map Ex.er := by rw [er_eq]; rfl
theorem formOk_er (e : Ex) : formOk e.er = formOk e := by
  unfold formOk textOk setOk kidsOk
  rw [er_k, er_S, er_t, er_kids, List.length_map]
theorem nodes_er : ∀ (e : Ex) (d : Int), e.er.nodes d = (e.nodes d).map fun x => (x.1, x.2.er)
  | .mk k S t a c kids, d => by
    rw [nodes_eq, nodes_eq, List.map_cons, er_kids]
    exact congrArg (List.cons _) (go kids)
  where
  go : ∀ (l : List Ex) {d : Int}, nodesL d (l.map Ex.er) = (nodesL d l).map fun x => (x.1, x.2.er)
    | [], _ => by simp [nodesL]
    | e :: r, d => by rw [List.map_cons, nodesL, nodesL, List.map_append, nodes_er e d, go r]
theorem chk_er : ∀ (l : List (Int × Ex)) (n : Nat), chk n (l.map fun x => (x.1, x.2.er)) = chk n l
  | [], n => rfl
  | (d, x) :: r, n => by
    rw [List.map_cons, chk, chk, formOk_er, chk_er r]
theorem check_er (e : Ex) : check e.er = check e := by unfold check; rw [nodes_er, chk_er]
theorem refStep_er (acc : List ByteArray) (x : Int × Ex) : refStep acc (x.1, x.2.er) = refStep acc x := by unfold refStep; simp only [er_k, er_t]
theorem foldl_er : ∀ (l : List (Int × Ex)) (acc : List ByteArray), (l.map fun x => (x.1, x.2.er)).foldl refStep acc = l.foldl refStep acc
  | [], acc => rfl
  | x :: r, acc => by rw [List.map_cons, List.foldl_cons, List.foldl_cons, refStep_er, foldl_er r]
theorem refsR_er (e : Ex) : refsR e.er = refsR e := by unfold refsR refsOf; rw [check_er, nodes_er, foldl_er]
theorem sizeR_er (e : Ex) : sizeR e.er = sizeR e := by unfold sizeR; rw [check_er, nodes_er, List.length_map]
theorem fndF_er : ∀ (l : List Rl) (i : Nat) (s : ByteArray), fndF i (l.map er2) s = fndF i l s
  | [], i, s => rfl
  | r :: l, i, s => by rw [List.map_cons, fndF, fndF, fndF_er l]; rfl
theorem fnd_er (l : List Rl) : fnd (l.map er2) = fnd l := funext fun s => fndF_er l 0 s
theorem gcount_er : ∀ (l : List Rl), gcount (l.map er2) = gcount l
  | [] => rfl
  | r :: l => by rw [List.map_cons, gcount, gcount, gcount_er l]; show sizeR r.2.er + _ = _; rw [sizeR_er]
theorem ruleChk_er (all : List Rl) (i : Nat) (r : Rl) : ruleChk (all.map er2) i (er2 r) = ruleChk all i r := by
  unfold ruleChk
  rw [fnd_er]
  show (if isName r.1.data.toList = false then (6 : Int) else if fnd all r.1 ≠ (i : Int) then 7 else check r.2.er) = _
  rw [check_er]
theorem rulesChk_er (all : List Rl) : ∀ (l : List Rl) (i : Nat), rulesChk (all.map er2) i (l.map er2) = rulesChk all i l
  | [], i => rfl
  | r :: l, i => by rw [List.map_cons, rulesChk, rulesChk, ruleChk_er, rulesChk_er all l]
theorem named_er (all : List Rl) : ∀ (l : List Rl), named (all.map er2) (l.map er2) = named all l
  | [] => rfl
  | r :: l => by
    rw [List.map_cons, named, named, named_er all l]
    show (namedI (insR (all.map er2) r.2.er) && _) = _
    unfold insR
    rw [refsR_er, fnd_er]
theorem gcheck_er (l : List Rl) : gcheck (l.map er2) = gcheck l := by
  unfold gcheck
  rw [List.length_map, rulesChk_er, gcount_er, named_er]
/-- What Read tells: rules, a place, an error. -/
def gread (l : List UInt8) : List Rl × Int × Int :=
  if (rulR l).2.2 ≠ 0 then ([], (rulR l).2.1, (rulR l).2.2)
  else if gcheck (rulR l).1 ≠ 0 then ([], 0, gcheck (rulR l).1) else ((rulR l).1, 0, 0)
theorem Got.inn {T : ByteArray} {base : Nat} {W : World} {g cap : Nat} {l : List Rl} (h : Got T base W g l) (hT : T.size ≤ 2000) : Gr.In W.heap.size W ⟨some ⟨g, 0, none⟩, cap, l⟩ := by
  refine ⟨by show l.length ≤ _; have := h.len; omega, fun j r hr => ?_⟩
  obtain ⟨h1, h2, h3⟩ := h.rows j r hr
  refine ⟨⟨g, 0, rfl, h.lt, fun m hm => ?_⟩, by omega, h2.inn⟩
  rw [Nat.zero_add]; exact h1 m hm
theorem rules_ok (T : ByteArray) (w : World) (hmx : T.size ≤ 140737488355328) (h0 : (rulR T.data.toList).2.2 = 0) :
    Calls Tryz.prog 11 #[.string T] w fun e w' => Below w.heap.size w w' ∧ ∃ (g cap : Nat) (l : List Rl), e = .returned (.tuple #[.slice (some ⟨g, 0, none⟩) l.length cap, .int .i64 0, .int .i64 0]) ∧ (rulR T.data.toList).1 = l.map er2 ∧ T.size ≤ 2000 ∧ Got T w.heap.size w' g l := by
  refine (rules_any T w hmx).mono ?_
  rintro e w' ⟨hb, ⟨g, cap, l, he, hr, hT, G⟩ | ⟨a, c, he, hr, hc⟩⟩
  · exact ⟨hb, g, cap, l, he, by rw [hr], hT, G⟩
  · rw [hr] at h0; exact absurd h0 hc
theorem rules_no (T : ByteArray) (w : World) (hmx : T.size ≤ 140737488355328) (h0 : ¬ (rulR T.data.toList).2.2 = 0) :
    Calls Tryz.prog 11 #[.string T] w fun e w' => Below w.heap.size w w' ∧ e = .returned (.tuple #[.slice none 0 0, .int .i64 (rulR T.data.toList).2.1, .int .i64 (rulR T.data.toList).2.2]) := by
  refine (rules_any T w hmx).mono ?_
  rintro e w' ⟨hb, ⟨g, cap, l, he, hr, hT, G⟩ | ⟨a, c, he, hr, hc⟩⟩
  · rw [hr] at h0; exact absurd rfl h0
  · exact ⟨hb, by rw [he, hr]⟩
set_option maxRecDepth 20000 in
set_option maxHeartbeats 4000000 in
theorem read_ok (T : ByteArray) (w : World) (hmx : T.size ≤ 140737488355328) (h0 : (gread T.data.toList).2.2 = 0) :
    Calls Tryz.prog 6 #[.string T] w fun e w' => Below w.heap.size w w' ∧ ∃ g : Gr, e = .returned (.tuple #[.agg #[.slice g.a g.rules.length g.c], .int .i64 0, .int .i64 0]) ∧ (gread T.data.toList).1 = g.rules.map er2 ∧ (gread T.data.toList).2.1 = 0 ∧ gcheck g.rules = 0 ∧ g.In w'.heap.size w' := by
  have h1 : (rulR T.data.toList).2.2 = 0 := by
    by_cases h : (rulR T.data.toList).2.2 = 0
    · exact h
    · unfold gread at h0; rw [if_pos h] at h0; exact absurd h0 h
  have h2 : gcheck (rulR T.data.toList).1 = 0 := by
    by_cases h : gcheck (rulR T.data.toList).1 = 0
    · exact h
    · unfold gread at h0; rw [if_neg (by simpa using h1), if_pos h] at h0; exact absurd h0 h
  have h3 : gread T.data.toList = ((rulR T.data.toList).1, 0, 0) := by unfold gread; rw [if_neg (by simpa using h1), if_neg (by simpa using h2)]
  rw [h3]
  simp only
  have hA := (Below.refl w.heap.size w).alloc (Nat.le_refl _) (.cells #[.slice none 0 0] 24)
  have hru := rules_ok T (w.alloc (.cells #[.slice none 0 0] 24)) hmx h1
  have bR := BoxN.new w 24 #[.slice none 0 0]
  have HB : Hid (∀ {W}, Below (w.alloc (.cells #[.slice none 0 0] 24)).heap.size (w.alloc (.cells #[.slice none 0 0] 24)) W → Below w.heap.size w W ∧ BoxN W w.heap.size 24 #[.slice none 0 0]) := fun hb => ⟨hA.trans (hb.mono hA.size), bR.below hb (by simp)⟩
  clear hA bR hmx h0 h1 h3
  generalize (rulR T.data.toList).1 = rs at *
  have HK : Hid (∀ (l : List Rl) (g cap : Nat) (W1 : World), rs = l.map er2 → Gr.In W1.heap.size W1 ⟨some ⟨g, 0, none⟩, cap, l⟩ → Calls Tryz.prog 10 #[.agg #[.slice (some ⟨g, 0, none⟩) l.length cap]] (W1.alloc (.cells #[.slice (some ⟨g, 0, none⟩) l.length cap] 24)) fun r W' => r = .returned (.int .i64 0) ∧ Below (W1.alloc (.cells #[.slice (some ⟨g, 0, none⟩) l.length cap] 24)).heap.size (W1.alloc (.cells #[.slice (some ⟨g, 0, none⟩) l.length cap] 24)) W') := fun l g cap W1 hl hi => by
    have := gcheck_any ⟨some ⟨g, 0, none⟩, cap, l⟩ _ (hi.grow ((Below.refl _ W1).alloc (Nat.le_refl _) (.cells #[.slice (some ⟨g, 0, none⟩) l.length cap] 24)))
    have hz : gcheck l = 0 := by rw [← gcheck_er, ← hl]; exact h2
    rw [hz, gval_eq] at this
    exact this
  have HZ : Hid (∀ l : List Rl, rs = l.map er2 → gcheck l = 0) := fun l hl => by rw [← gcheck_er, ← hl]; exact h2
  clear h2
  go_enter Tryz.func6, Tryz.ntmps6
  go_wp2_with (first
    | (go_at_call 11; refine hru.mono ?_; clear hru; rintro e w1 ⟨hb1, g, cap, l, rfl, hr, hT2, G⟩; have k1 : Hid _ := HB.out hb1; have hgi := G.inn (cap := cap) hT2; have hck := HK.out l g cap w1 hr hgi; have HI : Hid _ := hgi; have bN := BoxN.new w1 24 #[.slice (some ⟨g, 0, none⟩) l.length cap]; clear hb1 HB HK hgi)
    | (go_at_call 10; refine hck.mono ?_; clear hck; rintro e w2 ⟨rfl, hb2⟩; have k2 : Hid (BoxN w2 w1.heap.size 24 #[.slice (some ⟨g, 0, none⟩) l.length cap] ∧ BoxN w2 w.heap.size 24 #[.slice none 0 0] ∧ Below w.heap.size w w2 ∧ Got T (w.heap.size + 1) w2 g l) := ⟨bN.below hb2 (by simp), (k1.out.2.alloc _).below hb2 (by have := k1.out.2.lt; simp; omega), (k1.out.1.alloc k1.out.1.size _).trans (hb2.mono (by have := k1.out.1.size; simp; omega)), ((G.low (base' := w.heap.size + 1) (by simp)).gr (gr_alloc (gr_refl w.heap.size w1) _) (by omega)).gr (gr_below (gr_refl w.heap.size _) hb2) (by omega)⟩; have c2 := k2.out.1.cell 0; have c3 := k2.out.2.1.cell 0; have f3 := k2.out.2.1.frozen 0; simp only [List.getElem?_toArray, List.getElem?_cons_zero] at c2 c3; clear hb2 bN))
  have k3 := box1_set k2.out.2.1 (.slice (some ⟨g, 0, none⟩) l.length cap)
  have k4 := k2.out.2.2.1.setCell (p := ⟨w.heap.size, 0, none⟩) (Nat.le_refl _) (.slice (some ⟨g, 0, none⟩) l.length cap)
  have c4 := k3.cell 0
  simp only [List.getElem?_toArray, List.getElem?_cons_zero] at c4
  have hG := k2.out.2.2.2.gr (grownBy_setCell' w2 w.heap.size (.slice (some ⟨g, 0, none⟩) l.length cap)) (by omega)
  exact bodyPost_ret (by simp [results, Tryz.results6, go_sem, c4]) rfl ⟨k4, ⟨some ⟨g, 0, none⟩, cap, l⟩, rfl, hr, trivial, HZ.out l hr, hG.inn hT2⟩
set_option maxRecDepth 20000 in
set_option maxHeartbeats 4000000 in
theorem read_no (T : ByteArray) (w : World) (hmx : T.size ≤ 140737488355328) (h0 : ¬ (gread T.data.toList).2.2 = 0) :
    Calls Tryz.prog 6 #[.string T] w fun e w' => Below w.heap.size w w' ∧ e = .returned (.tuple #[.agg #[.slice none 0 0], .int .i64 (gread T.data.toList).2.1, .int .i64 (gread T.data.toList).2.2]) := by
  have hA := (Below.refl w.heap.size w).alloc (Nat.le_refl _) (.cells #[.slice none 0 0] 24)
  have bR := BoxN.new w 24 #[.slice none 0 0]
  have HB : Hid (∀ {W}, Below (w.alloc (.cells #[.slice none 0 0] 24)).heap.size (w.alloc (.cells #[.slice none 0 0] 24)) W → Below w.heap.size w W ∧ BoxN W w.heap.size 24 #[.slice none 0 0]) := fun hb => ⟨hA.trans (hb.mono hA.size), bR.below hb (by simp)⟩
  by_cases h1 : (rulR T.data.toList).2.2 = 0
  · have hru := rules_ok T (w.alloc (.cells #[.slice none 0 0] 24)) hmx h1
    have h2 : ¬ gcheck (rulR T.data.toList).1 = 0 := fun h => h0 (by unfold gread; rw [if_neg (by simpa using h1), if_neg (by simpa using h)])
    have h3 : gread T.data.toList = ([], 0, gcheck (rulR T.data.toList).1) := by unfold gread; rw [if_neg (by simpa using h1), if_pos h2]
    rw [h3]
    simp only
    clear hA bR hmx h0 h1 h3
    generalize (rulR T.data.toList).1 = rs at *
    have g2 : (gcheck rs != 0) = true := by simpa using h2
    have HK : Hid (∀ (l : List Rl) (g cap : Nat) (W1 : World), rs = l.map er2 → Gr.In W1.heap.size W1 ⟨some ⟨g, 0, none⟩, cap, l⟩ → Calls Tryz.prog 10 #[.agg #[.slice (some ⟨g, 0, none⟩) l.length cap]] (W1.alloc (.cells #[.slice (some ⟨g, 0, none⟩) l.length cap] 24)) fun r W' => r = .returned (.int .i64 (gcheck rs)) ∧ Below (W1.alloc (.cells #[.slice (some ⟨g, 0, none⟩) l.length cap] 24)).heap.size (W1.alloc (.cells #[.slice (some ⟨g, 0, none⟩) l.length cap] 24)) W') := fun l g cap W1 hl hi => by
      have := gcheck_any ⟨some ⟨g, 0, none⟩, cap, l⟩ _ (hi.grow ((Below.refl _ W1).alloc (Nat.le_refl _) (.cells #[.slice (some ⟨g, 0, none⟩) l.length cap] 24)))
      have hz : gcheck l = gcheck rs := by rw [← gcheck_er, ← hl]
      rw [hz, gval_eq] at this
      exact this
    clear h2
    generalize gcheck rs = C at *
    go_enter Tryz.func6, Tryz.ntmps6
    go_wp2_with (first
      | (go_at_call 11; refine hru.mono ?_; clear hru; rintro e w1 ⟨hb1, g, cap, l, rfl, hr, hT2, G⟩; have k1 : Hid _ := HB.out hb1; have hgi := G.inn (cap := cap) hT2; have hck := HK.out l g cap w1 hr hgi; clear hb1 HB HK hgi G)
      | (go_at_call 10; refine hck.mono ?_; clear hck; rintro e w2 ⟨rfl, hb2⟩; have k2 : Hid (BoxN w2 w.heap.size 24 #[.slice none 0 0] ∧ Below w.heap.size w w2) := ⟨(k1.out.2.alloc _).below hb2 (by have := k1.out.2.lt; simp; omega), (k1.out.1.alloc k1.out.1.size _).trans (hb2.mono (by have := k1.out.1.size; simp; omega))⟩; have c3 := k2.out.1.cell 0; have f3 := k2.out.1.frozen 0; simp only [List.getElem?_toArray, List.getElem?_cons_zero] at c3; clear hb2))
    have k3 := box1_set k2.out.1 (.slice none 0 0)
    have k4 := k2.out.2.setCell (p := ⟨w.heap.size, 0, none⟩) (Nat.le_refl _) (.slice none 0 0)
    have c4 := k3.cell 0
    simp only [List.getElem?_toArray, List.getElem?_cons_zero] at c4
    exact bodyPost_ret (by simp [results, Tryz.results6, go_sem, c4]) rfl ⟨k4, rfl⟩
  · have hru := rules_no T (w.alloc (.cells #[.slice none 0 0] 24)) hmx h1
    have h3 : gread T.data.toList = ([], (rulR T.data.toList).2.1, (rulR T.data.toList).2.2) := by unfold gread; rw [if_pos h1]
    rw [h3]
    simp only
    have g2 : ((rulR T.data.toList).2.2 != 0) = true := by simpa using h1
    have g3 : ((rulR T.data.toList).2.2 == 0) = false := by simpa using h1
    clear hA bR hmx h0 h1 h3
    generalize (rulR T.data.toList).2.2 = C at *
    generalize (rulR T.data.toList).2.1 = A at *
    go_enter Tryz.func6, Tryz.ntmps6
    go_wp2_with (go_at_call 11; refine hru.mono ?_; clear hru; rintro e w1 ⟨hb1, rfl⟩; have k1 : Hid _ := HB.out hb1; have k2 : Hid (BoxN (w1.alloc (.cells #[.slice none 0 0] 24)) w.heap.size 24 #[.slice none 0 0] ∧ Below w.heap.size w (w1.alloc (.cells #[.slice none 0 0] 24))) := ⟨k1.out.2.alloc _, k1.out.1.alloc k1.out.1.size _⟩; have c3 := k2.out.1.cell 0; have f3 := k2.out.1.frozen 0; simp only [List.getElem?_toArray, List.getElem?_cons_zero] at c3; clear hb1 HB)
    have k3 := box1_set k2.out.1 (.slice none 0 0)
    have k4 := k2.out.2.setCell (p := ⟨w.heap.size, 0, none⟩) (Nat.le_refl _) (.slice none 0 0)
    have c4 := k3.cell 0
    simp only [List.getElem?_toArray, List.getElem?_cons_zero] at c4
    exact bodyPost_ret (by simp [results, Tryz.results6, go_sem, c4]) rfl ⟨k4, rfl⟩
end Go.Proofs.YtbeohmcmphebhaaGreatDoor
namespace Go.Proofs.YtbeohmcmphebhaaGreatDoor
open Go.RowKit
set_option linter.unusedVariables false
/-! The other reader's rules. -/
def rulesG (pre : Tk → Rs) (l : List Rl) (t : Tk) : Except (List UInt8) (List Rl × Tk) := thn (ruleP pre t) fun x => rulesL pre x.2.s.length (l ++ [x.1]) x.2
def rulesH (pre : Tk → Rs) (l : List Rl) (t : Tk) : Except (List UInt8) (List Rl × Tk) := if t.k = 0 then .ok (l, t) else rulesG pre l t
theorem rulesL_fuel {T : List UInt8} {n : Nat} : ∀ (m k : Nat) (l : List Rl) (t : Tk), t.of T → t.s.length < n → t.s.length ≤ m → t.s.length ≤ k → rulesL (preP n) m l t = rulesL (preP n) k l t := by
  intro m
  induction m with
  | zero =>
    intro k l t ht hn hm hk
    have h0 : t.s = [] := List.eq_nil_of_length_eq_zero (by omega)
    have h2 : t.k = 0 := by rw [ht.1]; exact (tokS_end t.s).2 h0
    cases k with
    | zero => rfl
    | succ k => rw [rulesL, rulesL, if_pos h2]
  | succ m ih =>
    intro k l t ht hn hm hk
    by_cases h0 : t.k = 0
    · cases k with
      | zero => rw [rulesL.eq_2, if_pos h0]; rfl
      | succ k => rw [rulesL, rulesL, if_pos h0, if_pos h0]
    · have hs : t.s ≠ [] := fun e => h0 (by rw [ht.1]; exact (tokS_end t.s).2 e)
      have hp := List.length_pos_iff.2 hs
      cases k with
      | zero => omega
      | succ k =>
        rw [rulesL, rulesL, if_neg h0, if_neg h0]
        have hf := ruleP_fine n t ht hn
        cases hx : ruleP (preP n) t with
        | error s => rfl
        | ok x =>
          rw [hx] at hf
          rw [thn_ok, thn_ok]
          exact ih k _ _ hf.1 (by have := hf.2; omega) (by have := hf.2; omega) (by have := hf.2; omega)
theorem rulesL_H {T : List UInt8} {n : Nat} (l : List Rl) (t : Tk) (ht : t.of T) (hn : t.s.length < n) : rulesL (preP n) t.s.length l t = rulesH (preP n) l t := by
  unfold rulesH
  by_cases h0 : t.k = 0
  · rw [if_pos h0]
    cases t.s.length with
    | zero => rfl
    | succ m => rw [rulesL, if_pos h0]
  · rw [if_neg h0]
    have hs : t.s ≠ [] := fun e => h0 (by rw [ht.1]; exact (tokS_end t.s).2 e)
    have hp := List.length_pos_iff.2 hs
    obtain ⟨m, hm⟩ : ∃ m, t.s.length = m + 1 := ⟨t.s.length - 1, by omega⟩
    rw [hm, rulesL, if_neg h0]
    unfold rulesG
    have hf := ruleP_fine n t ht hn
    cases hx : ruleP (preP n) t with
    | error s => rfl
    | ok x =>
      rw [hx] at hf
      rw [thn_ok, thn_ok]
      exact rulesL_fuel _ _ _ _ hf.1 (by have := hf.2; omega) (by have := hf.2; omega) (Nat.le_refl _)
theorem tokS_head (s : List UInt8) (h : (tokS s).k = 3) : (tokS s).e.k = 4 := by
  unfold tokS arr at h ⊢
  split at h
  · exact absurd (show (4 : UInt8) = 3 from h) (by decide)
  split at h
  · rename_i h1 h2
    rw [if_neg h1, if_pos h2]; exact h2.2.1
  · rename_i h1 _
    exact absurd h h1
/-- What a round tells. -/
structure RuK (L : List Tk) (n : Nat) (R : Except (List UInt8) (List Rl × Tk)) (l : List Rl) (u : Tk) (y : Ex) (v : Tk) (b : Bool) : Prop where
  no : b = false → R = .error v.s
  more : b = true → R = rulesH (preP n) (l ++ [(u.e.t, y.er)]) v ∧ (v.k = 4 ∨ v.s.length < u.s.length)
theorem ruK {T : ByteArray} {L : List Tk} (hL : TL T L) {n : Nat} {j : Nat} {u : Tk} (hu : L[j]? = some u) (hun : u.s.length < n) (h3 : u.k = 3) (l : List Rl) {y : Ex} {v : Tk} {b : Bool} (hm : match altP (preP n) (tok u.r) with | .ok x => b = true ∧ y.er = x.1 ∧ v = x.2 | .error s => v.s = s ∧ (b = true → v.k = 4)) : RuK L n (rulesG (preP n) l u) l u y v b := by
  obtain ⟨n1, n2⟩ := hL.next hu (by rw [h3]; decide) (by rw [h3]; decide)
  have hrp : ruleP (preP n) u = thn (altP (preP n) (tok u.r)) fun x => .ok ((u.e.t, x.1), x.2) := by
    unfold ruleP
    rw [if_pos h3]
    exact thn_take u _ fun h4 => by rw [altP_tells (preP_tells n) _ h4]; rfl
  unfold rulesG
  rw [hrp]
  cases hp : altP (preP n) (tok u.r) with
  | error s =>
    rw [hp] at hm
    rw [thn_error, thn_error]
    refine ⟨fun _ => by rw [hm.1], fun h => ⟨?_, .inl (hm.2 h)⟩⟩
    unfold rulesH rulesG ruleP
    rw [if_neg (by rw [hm.2 h]; decide), if_neg (by rw [hm.2 h]; decide), hm.1]; rfl
  | ok x =>
    rw [hp] at hm
    rw [thn_ok, thn_ok]
    obtain ⟨m1, m2, m3⟩ := hm
    refine ⟨fun h => (by rw [m1] at h; cases h), fun _ => ?_⟩
    have h4 : (tok u.r).k ≠ 4 := fun h => by rw [altP_tells (preP_tells n) _ h] at hp; cases hp
    have hf := altP_fine (preP_fine (T := T.data.toList) n) _ (hL.of n1 h4) (by omega)
    rw [hp] at hf
    obtain ⟨f1, f2, _⟩ := hf
    rw [← m3] at f1 f2
    simp only
    rw [← m3, ← m2]
    exact ⟨rulesL_H _ _ f1 (by omega), .inr (by omega)⟩
theorem readG_tok (l : List UInt8) : readG l = thn (rulesG (preP (l.length + 1)) [] (tok l)) fun x => if x.2.k = 0 then .ok x.1 else .error x.2.s := by
  unfold readG takeL
  by_cases h4 : (tok l).k = 4
  · rw [if_pos h4, thn_error]
    unfold rulesG ruleP
    rw [if_neg (by rw [h4]; decide)]; rfl
  · rw [if_neg h4, thn_ok]; rfl
/-- Rules that a loop gathers. -/
structure Gq (n g : Nat) (L : List Tk) (w : World) (P : Nat) (wr : World) (v b : Value) (l : List Rl) : Prop where
  own : wr.ownsRow (P + 1) 49 8 v l.length (rcsL l)
  ou : ∀ r ∈ l, r.2.Ou (fun b => P + 1 ≤ b ∧ v.ownBlock ≠ some b) wr ∧ r.1.size ≤ n
  box : BoxN wr P 24 #[b]
  res : BoxN wr w.heap.size 24 #[.slice none 0 0]
  tw : TW n g L wr
  bel : Below w.heap.size w wr
  lt : w.heap.size < P
  gP : g < P
theorem Gq.start {n g : Nat} {L : List Tk} {w w1 : World} (hw : w.heap.size < w1.heap.size) (ht : TW n g L w1) (hr : BoxN w1 w.heap.size 24 #[.slice none 0 0]) (hb : Below w.heap.size w w1) : Gq n g L w w1.heap.size (w1.alloc (.cells #[.slice none 0 0] 24)) (.slice none 0 0) (.slice none 0 0) [] :=
  ⟨World.ownsRow_nil _ _ _ _, fun x hx => (by cases hx), BoxN.new w1 24 _, hr.alloc _, ht.alloc _, hb.alloc (by omega) _, hw, ht.1⟩
theorem Gq.below {n g P : Nat} {L : List Tk} {w wr w1 : World} {v b : Value} {l : List Rl} (h : Gq n g L w P wr v b l) (hb : Below wr.heap.size wr w1) : Gq n g L w P w1 v b l :=
  ⟨h.own.kept (below_grown hb) (by cases v.ownBlock <;> simp), fun x hx => ⟨(h.ou x hx).1.below hb (fun _ h => h), (h.ou x hx).2⟩, h.box.below hb h.box.lt, h.res.below hb h.res.lt, h.tw.below hb, h.bel.trans (hb.mono h.bel.size), h.lt, h.gP⟩
theorem Gq.alloc {n g P : Nat} {L : List Tk} {w wr : World} {v b : Value} {l : List Rl} (h : Gq n g L w P wr v b l) (o : Obj) : Gq n g L w P (wr.alloc o) v b l := h.below ((Below.refl _ wr).alloc (Nat.le_refl _) o)
theorem Gq.blk {n g P : Nat} {L : List Tk} {w wr : World} {v b : Value} {l : List Rl} (h : Gq n g L w P wr v b l) (k : Nat) (hk : v.ownBlock = some k) : P + 1 ≤ k ∧ k < wr.heap.size := h.own.lt k hk
theorem Gq.set {n g P : Nat} {L : List Tk} {w wr w1 : World} {v b c : Value} {l : List Rl} (h : Gq n g L w P wr v b l) (hx : BoxN w1 P 24 #[c]) (hg : wr.grownBy w1 (some P)) : Gq n g L w P w1 v c l := by
  have hlt := h.lt
  have hgP := h.gP
  refine ⟨h.own.kept hg (by
    cases hv : v.ownBlock with
    | none => exact .inl rfl
    | some k => right; have := (h.blk k hv).1; intro e; cases e; omega), fun x hx => ⟨(h.ou x hx).1.gr hg (fun b hb _ => ⟨fun e => by cases e; have := hb.1; omega, hb⟩), (h.ou x hx).2⟩, hx, h.res.kept hg (fun e => by cases e; omega), ⟨Nat.lt_of_lt_of_le h.tw.1 hg.size, fun j t hj m hm => ?_⟩, h.bel.grown hg h.bel.size (fun k e => by cases e; omega), hlt, hgP⟩
  rw [← h.tw.2 j t hj m hm]
  exact World.cell?_of_block (w := wr) (hg.block g h.tw.1 (fun e => by cases e; omega))
theorem wpList_app_gq {ops : Array Oper} {rest : List Oper} {o : Oper} {a : Act} {Q : Exit → Act → World → Prop} (hgd : o.guard = none) (s x : Operand)
    (ho : o.op = .call { callee := .builtin .append, args := #[s, x], argTypes := #[22, 22] }) {n g P N : Nat} {L : List Tk} {w w1 : World} {v b : Value} {l : List Rl} {y : Rl} (h : Gq n g L w P w1 v b l)
    (hs : a.eval s = v) {H : Nat} (hH : w1.heap.size = H) (hx : a.eval x = .slice (some ⟨H, 0, none⟩) 1 1) (hN : ∀ k, v.ownBlock = some k → k < N) (hPN : P + 1 ≤ N) (hy : y.2.Ou (N ≤ ·) w1) (hy1 : y.1.size ≤ n) (hl : l.length ≤ 2000000)
    (hK : ∀ g3 cap3 w3, Gq n g L w P w3 (.slice (some ⟨g3, 0, none⟩) (l.length + 1) cap3) b (l ++ [y]) → wpList Tryz.prog ops Q rest (a.put o.dst (.slice (some ⟨g3, 0, none⟩) (l.length + 1) cap3)) w3) :
    wpList Tryz.prog ops Q (o :: rest) a (w1.alloc (.cells #[.string y.1, .int .i64 y.2.k, .int .u64 (wd y.2.S 0), .int .u64 (wd y.2.S 1), .int .u64 (wd y.2.S 2), .int .u64 (wd y.2.S 3), .string y.2.t, .slice y.2.a y.2.kids.length y.2.c] 49)) := by
  obtain ⟨i0, hi, hz0, hz1, hz2⟩ := info_parts Tryz.info49'
  have hA := h.alloc (.cells (rcell y).toArray 49)
  have hPl := h.box.lt
  have hlt := h.lt
  have hgP := h.gP
  have hnews := World.news_of_block (World.alloc_heap_new w1 (.cells (rcell y).toArray 49))
  subst hH
  refine wpList_append_lies _ hgd s x 22 ho (P + 1) 49 i0 (.agg z8) 8 96 Tryz.underlying22 hi hz0 hz1 hz2 rfl (by decide) v l.length (rcsL l) hs hA.own ⟨w1.heap.size, 0, none⟩ 1 1 (rcell y) hx rfl hnews (rcell_one y) (by omega) (by unfold maxLen; omega) (by omega) (by simp; omega) (w1.heap.size + 1) (by simp) ?_
  intro g3 cap3 w3 hown hgr hor _
  have hblk : ∀ k, v.ownBlock = some k → P + 1 ≤ k := fun k hk => (h.blk k hk).1
  have hne : ∀ k, k ≤ P → some k ≠ v.ownBlock := fun k hk e => by have := hblk k e.symm; omega
  have hg0 : w1.grownBy w3 v.ownBlock := grown_alloc _ hgr
  have ho3 : (Value.slice (some ⟨g3, 0, none⟩) (l.length + 1) cap3).ownBlock = some g3 := rfl
  refine hK g3 cap3 w3 ⟨by rw [rcsL_app]; simpa using hown, fun r hr => ?_, hA.box.kept hgr (hne P (Nat.le_refl _)), hA.res.kept hgr (hne _ (by omega)), ⟨Nat.lt_of_lt_of_le hA.tw.1 hgr.size, fun j t hj m hm => ?_⟩, hA.bel.grown hgr hA.bel.size (fun k hk => by have := hblk k hk; omega), hlt, hgP⟩
  · rw [ho3]
    rcases List.mem_append.1 hr with hr | hr
    · refine ⟨(h.ou r hr).1.gr hg0 (fun b hb hlt => ⟨hb.2.symm, hb.1, ?_⟩), (h.ou r hr).2⟩
      rcases hor with h3 | rfl
      · rw [← h3]; exact hb.2
      · intro e; cases e; omega
    · rw [List.mem_singleton.1 hr]
      refine ⟨hy.gr hg0 (fun b hb hlt => ⟨fun e => by have := hN b e.symm; omega, by omega, ?_⟩), hy1⟩
      rcases hor with h3 | rfl
      · intro e; cases e; have := hN _ h3; omega
      · intro e; cases e; omega
  · rw [← hA.tw.2 j t hj m hm]
    exact World.cell?_of_block (w := w1.alloc (.cells (rcell y).toArray 49)) (hgr.block g hA.tw.1 (hne g (by omega)))
theorem Gq.inn {n g P r c : Nat} {L : List Tk} {w wr : World} {b : Value} {l : List Rl} (h : Gq n g L w P wr (.slice (some ⟨r, 0, none⟩) l.length c) b l) (hn : n ≤ 2000) (hl : l.length ≤ 2001) : Gr.In wr.heap.size wr ⟨some ⟨r, 0, none⟩, c, l⟩ := by
  refine ⟨by show l.length ≤ _; omega, fun j x hx => ?_⟩
  obtain ⟨h2, h3⟩ := h.ou x (List.mem_of_getElem? hx)
  refine ⟨⟨r, 0, rfl, (h.blk r rfl).2, fun m hm => ?_⟩, by omega, h2.inn⟩
  obtain ⟨u, hu⟩ : ∃ u, (rcell x)[m]? = some u := ⟨_, List.getElem?_eq_getElem (by show m < 8; exact hm)⟩
  have h1 := rcsL_at l j m x hx hm
  rw [hu] at h1 ⊢
  have := World.ownsRow.cells h.own (g := r) rfl _ _ h1
  rw [Nat.zero_add]
  rwa [Addr.add_lit, Nat.zero_add] at this
end Go.Proofs.YtbeohmcmphebhaaGreatDoor
namespace Go.Proofs.YtbeohmcmphebhaaGreatDoor
set_option linter.unusedVariables false
/-! A grammar that is printed is read as it was. -/
theorem name_form {l : List UInt8} (h : isName l = true) : ∃ c t, l = c :: t ∧ isL (c.toNat : Int) = true ∧ ∀ x ∈ c :: t, okc x = true := by
  unfold isName at h
  simp only [Bool.and_eq_true] at h
  obtain ⟨⟨h1, h2⟩, _⟩ := h
  cases l with
  | nil => simp at h2
  | cons c t =>
    simp only [part, Bool.and_eq_true, List.all_eq_true] at h1
    refine ⟨c, t, rfl, h1.1, fun x hx => ?_⟩
    rcases List.mem_cons.1 hx with rfl | hx
    · unfold okc; rw [h1.1]; rfl
    · exact h1.2 x hx
theorem line_eq (r : Rl) : line r = r.1.data.toList ++ (32 :: 60 :: 45 :: 32 :: (r.2.pr ++ [10])) := by
  unfold line; simp
theorem gpr_cons (r : Rl) (l : List Rl) : gpr (r :: l) = r.1.data.toList ++ (32 :: 60 :: 45 :: 32 :: (r.2.pr ++ (10 :: gpr l))) := by
  rw [show gpr (r :: l) = line r ++ gpr l from rfl, line_eq]; simp
/-- A rule that is right by itself. -/
def rOk (r : Rl) : Prop := isName r.1.data.toList = true ∧ r.2.okA = true
theorem tok_line (r : Rl) (h : rOk r) (z : List UInt8) : tok (r.1.data.toList ++ (32 :: 60 :: 45 :: 32 :: z)) = ⟨3, r.1.data.toList ++ (32 :: 60 :: 45 :: 32 :: z), 32 :: z, lfT 4 r.1.data.toList⟩ := by
  obtain ⟨c, t, hl, hc, hall⟩ := name_form h.1
  rw [hl]
  have hsk : skip (32 :: 60 :: 45 :: 32 :: z) = 60 :: 45 :: 32 :: z := by
    rw [skip_blank 32 _ rfl, skip_cons 60 _ (by decide) (by decide)]
  have := tok_head c t (32 :: 60 :: 45 :: 32 :: z) hc hall (nok32 _) (by unfold Arw; rw [hsk]; exact ⟨rfl, rfl⟩)
  rw [hsk] at this
  exact this
theorem tok_k (l : List Rl) (h : ∀ r ∈ l, rOk r) : (l = [] ∧ tok (gpr l) = ⟨0, [], [], nd 0 []⟩) ∨ (l ≠ [] ∧ (tok (gpr l)).k = 3) := by
  cases l with
  | nil => exact .inl ⟨rfl, rfl⟩
  | cons r l =>
    right
    rw [gpr_cons, tok_line r (h r List.mem_cons_self)]
    exact ⟨by simp, rfl⟩
theorem c0_line (l : List Rl) (h : ∀ r ∈ l, rOk r) : c0 (10 :: gpr l) := by
  unfold c0 c1 c2 ok3 nokA
  rw [tok_blank10]
  have hk : (tok (gpr l)).k = 0 ∨ (tok (gpr l)).k = 3 := by
    rcases tok_k l h with ⟨_, h1⟩ | ⟨_, h1⟩
    · left; rw [h1]
    · exact .inr h1
  have hn : nok (10 :: gpr l) := fun c s e => by cases e; decide
  rcases hk with hk | hk <;> rw [hk] <;> exact ⟨⟨⟨by decide, ⟨hn, by decide⟩, by decide⟩, by decide⟩, by decide⟩
theorem ruleP_line (n : Nat) (r : Rl) (l : List Rl) (h : ∀ x ∈ r :: l, rOk x) (hn : (gpr (r :: l)).length < n) : ruleP (preP n) (tok (gpr (r :: l))) = .ok (er2 r, tok (gpr l)) := by
  rw [gpr_cons] at hn ⊢
  rw [tok_line r (h r List.mem_cons_self)]
  have h0 := p0_all r.2 (h r List.mem_cons_self).2 n (10 :: gpr l) (c0_line l (fun x hx => h x (List.mem_cons_of_mem _ hx))) (by simp at hn ⊢; omega)
  unfold ruleP
  rw [if_pos rfl, take_tk (show ok3 (32 :: (r.2.pr ++ (10 :: gpr l))) from by unfold ok3; rw [tok_blank]; exact begins_ok3 (altP_begins h0)), thn_ok, tok_blank, h0, thn_ok, tok_blank10]
  show Except.ok ((_, _), _) = _
  unfold er2
  rw [show (lfT 4 r.1.data.toList).t = r.1 from ba_of_list r.1]
theorem rulesL_lines (n : Nat) : ∀ (l : List Rl) (m : Nat) (acc : List Rl), (∀ x ∈ l, rOk x) → (gpr l).length < n → (tok (gpr l)).s.length ≤ m → rulesL (preP n) m acc (tok (gpr l)) = .ok (acc ++ l.map er2, tok [])
  | [], m, acc, _, _, _ => by
    have e : gpr [] = [] := rfl
    rw [e]
    simp only [List.map_nil, List.append_nil]
    cases m with
    | zero => rfl
    | succ m => rw [rulesL, if_pos (show (tok []).k = 0 from rfl)]
  | r :: l, m, acc, h, hn, hm => by
    have hk : (tok (gpr (r :: l))).k = 3 := by
      rcases tok_k (r :: l) h with ⟨h1, _⟩ | ⟨_, h1⟩
      · cases h1
      · exact h1
    cases m with
    | zero =>
      exfalso
      have h1 : (tok (gpr (r :: l))).s = [] := List.eq_nil_of_length_eq_zero (by omega)
      unfold tok at h1
      rw [tokS_s] at h1
      have h2 : (tok (gpr (r :: l))).k = 0 := by unfold tok; rw [h1]; rfl
      rw [hk] at h2; revert h2; decide
    | succ m =>
      rw [rulesL, if_neg (by rw [hk]; decide), ruleP_line n r l h hn, thn_ok]
      have hl : (gpr l).length < (gpr (r :: l)).length := by rw [gpr_cons]; simp; omega
      have hs : (tok (gpr (r :: l))).s.length = (gpr (r :: l)).length := by rw [gpr_cons, tok_line r (h r List.mem_cons_self)]
      rw [rulesL_lines n l m (acc ++ [er2 r]) (fun x hx => h x (List.mem_cons_of_mem _ hx)) (by omega) (by have := tok_len (gpr l); omega)]
      simp
theorem readG_pr (r : Rl) (l : List Rl) (h : ∀ x ∈ r :: l, rOk x) : readG (gpr (r :: l)) = .ok ((r :: l).map er2) := by
  have hk : (tok (gpr (r :: l))).k = 3 := by
    rcases tok_k (r :: l) h with ⟨h1, _⟩ | ⟨_, h1⟩
    · cases h1
    · exact h1
  unfold readG takeL
  rw [if_neg (by rw [hk]; decide), thn_ok]
  unfold rulesP
  rw [ruleP_line _ r l h (by omega), thn_ok]
  have hl : (gpr l).length < (gpr (r :: l)).length := by rw [gpr_cons]; simp; omega
  rw [rulesL_lines _ l _ [er2 r] (fun x hx => h x (List.mem_cons_of_mem _ hx)) (by omega) (Nat.le_refl _), thn_ok]
  simp only
  rw [if_pos (show (tok []).k = 0 from rfl)]
  rfl
/-- Of a grammar that is right. -/
theorem read_pr (all : List Rl) (hok : GOk all) : readG (gpr all) = .ok (all.map er2) := by
  have hr : ∀ x ∈ all, rOk x := fun x hx => by
    obtain ⟨i, hi⟩ := List.getElem?_of_mem hx
    obtain ⟨h1, _, h3⟩ := ruleChk_zero (hok.rules i x hi)
    exact ⟨h1, okA_check x.2 h3⟩
  cases all with
  | nil => have := hok.pos; simp at this
  | cons r l => exact readG_pr r l hr
end Go.Proofs.YtbeohmcmphebhaaGreatDoor
namespace Go.Proofs.YtbeohmcmphebhaaGreatDoor
open Go.RowKit
set_option linter.unusedVariables false
def lit1 : ByteArray := ⟨#[65, 32, 60, 45, 32, 66, 10, 66, 60, 45, 39, 98, 39]⟩
def lit2 : ByteArray := ⟨#[65, 32, 60, 45, 32, 66, 32, 60, 45, 32, 39, 98, 39]⟩
set_option maxRecDepth 100000 in
theorem lit2_read : (gread lit2.data.toList).2.2 = 4 ∧ (gread lit2.data.toList).2.1 = 5 := by decide +kernel
set_option maxRecDepth 100000 in
theorem lit1_read : (gread lit1.data.toList).2.2 = 0 ∧ (gread lit1.data.toList).1.length = 2 := by decide +kernel
theorem gread_pr (all : List Rl) (h : gcheck all = 0) (hl : (gpr all).length ≤ 2000) : gread (gpr all) = (all.map er2, 0, 0) := by
  have hr : rulR (gpr all) = (all.map er2, 0, 0) := by unfold rulR; rw [if_neg (by omega), read_pr all (gcheck_ok h)]
  unfold gread
  rw [hr]
  simp only
  rw [if_neg (by simp), if_neg (by rw [gcheck_er, h]; simp)]
theorem gread_large (l : List UInt8) (hl : 2000 < l.length) : gread l = ([], 0, 2) := by
  have hr : rulR l = ([], 0, 2) := by unfold rulR; rw [if_pos hl]
  unfold gread
  rw [hr]
  simp only
  rw [if_pos (by decide)]
theorem gpr_all_le {all : List Rl} (hok : GOk all) : (gpr all).length ≤ 1801000 := by
  have h1 := gpr_le hok all.length (Nat.le_refl _)
  rw [List.take_length] at h1
  have := hok.most
  omega
theorem readLit1 (w : World) : Calls Tryz.prog 6 #[.string ⟨#[65, 32, 60, 45, 32, 66, 10, 66, 60, 45, 39, 98, 39]⟩] w fun e w' => Below w.heap.size w w' ∧ ∃ (a : Option Addr) (c : Nat), e = .returned (.tuple #[.agg #[.slice a 2 c], .int .i64 0, .int .i64 0]) := by
  refine (read_ok lit1 w (by decide) lit1_read.1).mono ?_
  rintro e w' ⟨hb, g, he, h1, _⟩
  have hl : g.rules.length = 2 := by
    have h2 := lit1_read.2
    rw [h1, List.length_map] at h2
    exact h2
  exact ⟨hb, g.a, g.c, by rw [he, hl]⟩
theorem readLit2 (w : World) : Calls Tryz.prog 6 #[.string ⟨#[65, 32, 60, 45, 32, 66, 32, 60, 45, 32, 39, 98, 39]⟩] w fun e w' => Below w.heap.size w w' ∧ e = .returned (.tuple #[.agg #[.slice none 0 0], .int .i64 5, .int .i64 4]) := by
  refine (read_no lit2 w (by decide) (by rw [lit2_read.1]; decide)).mono ?_
  rintro e w' ⟨hb, he⟩
  rw [lit2_read.1, lit2_read.2] at he
  exact ⟨hb, he⟩
set_option maxRecDepth 20000 in
set_option maxHeartbeats 8000000 in
theorem gramBack_any (g : Gr) (w : World) (hin : g.In w.heap.size w) :
    Calls Tryz.prog 4 #[g.val] w fun r W' => r = .returned (.bool true) ∧ Below w.heap.size w W' := by
  have hA := (Below.refl w.heap.size w).alloc (Nat.le_refl _) (.cells #[.slice g.a g.rules.length g.c] 24)
  have bG := BoxN.new w 24 #[.slice g.a g.rules.length g.c]
  have HN : Hid (∀ {W}, Below (w.alloc (.cells #[.slice g.a g.rules.length g.c] 24)).heap.size (w.alloc (.cells #[.slice g.a g.rules.length g.c] 24)) W → Below w.heap.size w W ∧ BoxN W w.heap.size 24 #[.slice g.a g.rules.length g.c]) := fun h => ⟨hA.trans (h.mono hA.size), bG.below h (by simp)⟩
  have HS : Hid (∀ {W W2 : World}, Below w.heap.size w W ∧ BoxN W w.heap.size 24 #[.slice g.a g.rules.length g.c] → Below W.heap.size W W2 → Below w.heap.size w W2 ∧ BoxN W2 w.heap.size 24 #[.slice g.a g.rules.length g.c]) := fun h hb => ⟨h.1.trans (hb.mono h.1.size), h.2.below hb h.2.lt⟩
  have hlt := readLit1 (w.alloc (.cells #[.slice g.a g.rules.length g.c] 24))
  have hpr : ∀ W, Below w.heap.size w W → _ := fun W h => gprint_any g W (hin.grow h)
  have HI : Hid (g.In w.heap.size w) := hin
  unfold gprR at hpr
  rw [gval_eq] at hpr ⊢
  clear hA bG
  by_cases h0 : gcheck g.rules = 0
  · have hok := gcheck_ok h0
    have hle := gpr_all_le hok
    obtain ⟨T, hT⟩ : ∃ T : ByteArray, T = ⟨(gpr g.rules).toArray⟩ := ⟨_, rfl⟩
    have hTd : T.data.toList = gpr g.rules := by rw [hT]
    have hTs : T.size = (gpr g.rules).length := by rw [← hTd]; exact (llen T).symm
    simp only [h0, ↓reduceIte] at hpr
    rw [← hT] at hpr
    by_cases hL : T.size ≤ 2000
    · have hgr := gread_pr g.rules h0 (by omega)
      rw [← hTd] at hgr
      have hrd : ∀ W, _ := fun W => read_ok T W (by omega) (by rw [hgr])
      rw [hgr] at hrd
      simp only at hrd
      have HSa : Hid (∀ (h : Gr) (W : World), g.rules.map er2 = h.rules.map er2 → g.In W.heap.size W → h.In W.heap.size W → Calls Tryz.prog 8 #[.agg #[.slice g.a g.rules.length g.c], .agg #[.slice h.a h.rules.length h.c]] W fun r w' => r = .returned (.bool true) ∧ Below W.heap.size W w') := fun h W he h1 h2 => sameG_any g h he W h1 h2
      have g1 : decide ((2000 : Int) < (T.size : Int)) = false := decide_eq_false (by omega)
      clear hT hTd hTs hgr hin hok h0 hle
      go_enter Tryz.func4, Tryz.ntmps4
      go_wp2_with (first
        | (go_at_call 6; refine hlt.mono ?_; clear hlt; rintro e W1 ⟨hb1, a1, cp1, rfl⟩; have k1 := HN.out hb1; have k2 := HS.out k1 ((Below.refl _ W1).alloc (Nat.le_refl _) (.cells #[.slice a1 2 cp1] 24)); have c2 := k2.2.cell 0; simp only [List.getElem?_toArray, List.getElem?_cons_zero] at c2; have hp2 := hpr _ k2.1; clear hb1 hpr HN)
        | (go_at_call 9; refine hp2.mono ?_; clear hp2; rintro e W3 ⟨rfl, hb3⟩; have k3 := HS.out k2 hb3; have hr3 := hrd W3; clear hb3 c2 hrd)
        | (go_at_call 6; refine hr3.mono ?_; clear hr3; rintro e W4 ⟨hb4, h, rfl, he, -, hc4, hi4⟩; have k4 := HS.out k3 hb4; have k5 := HS.out k4 ((Below.refl _ W4).alloc (Nat.le_refl _) (.cells #[.slice h.a h.rules.length h.c] 24)); have c5 := k5.2.cell 0; simp only [List.getElem?_toArray, List.getElem?_cons_zero] at c5; have hs5 := HSa.out h _ he (HI.out.grow k5.1) (hi4.grow ((Below.refl _ W4).alloc (Nat.le_refl _) (.cells #[.slice h.a h.rules.length h.c] 24))); clear hb4 HSa)
        | (go_at_call 8; refine hs5.mono ?_; clear hs5; rintro e W6 ⟨rfl, hb6⟩; have k6 := HS.out k5 hb6))
      go_ret
      exact ⟨rfl, k6.1⟩
    · have hgr := gread_large T.data.toList (by rw [llen]; omega)
      have hrd : ∀ W, _ := fun W => read_no T W (by omega) (by rw [hgr]; decide)
      rw [hgr] at hrd
      simp only at hrd
      have g1 : decide ((2000 : Int) < (T.size : Int)) = true := decide_eq_true (by omega)
      clear hT hTd hTs hgr hin hok h0 hle
      go_enter Tryz.func4, Tryz.ntmps4
      go_wp2_with (first
        | (go_at_call 6; refine hlt.mono ?_; clear hlt; rintro e W1 ⟨hb1, a1, cp1, rfl⟩; have k1 := HN.out hb1; have k2 := HS.out k1 ((Below.refl _ W1).alloc (Nat.le_refl _) (.cells #[.slice a1 2 cp1] 24)); have c2 := k2.2.cell 0; simp only [List.getElem?_toArray, List.getElem?_cons_zero] at c2; have hp2 := hpr _ k2.1; clear hb1 hpr HN)
        | (go_at_call 9; refine hp2.mono ?_; clear hp2; rintro e W3 ⟨rfl, hb3⟩; have k3 := HS.out k2 hb3; have hr3 := hrd W3; clear hb3 c2 hrd)
        | (go_at_call 6; refine hr3.mono ?_; clear hr3; rintro e W4 ⟨hb4, rfl⟩; have k4 := HS.out k3 hb4; clear hb4))
      go_ret
      exact ⟨rfl, (HS.out k4 ((Below.refl _ W4).alloc (Nat.le_refl _) _)).1⟩
  · have g2 : (gcheck g.rules != 0) = true := by simpa using h0
    have hcc : (gcheck g.rules == gcheck g.rules) = true := by simp
    simp only [h0, ↓reduceIte] at hpr
    have hck : ∀ W, Below w.heap.size w W → _ := fun W h => gcheck_any g W (hin.grow h)
    rw [gval_eq] at hck
    generalize gcheck g.rules = C at *
    clear h0 hin
    go_enter Tryz.func4, Tryz.ntmps4
    go_wp2_with (first
      | (go_at_call 6; refine hlt.mono ?_; clear hlt; rintro e W1 ⟨hb1, a1, cp1, rfl⟩; have k1 := HN.out hb1; have k2 := HS.out k1 ((Below.refl _ W1).alloc (Nat.le_refl _) (.cells #[.slice a1 2 cp1] 24)); have c2 := k2.2.cell 0; simp only [List.getElem?_toArray, List.getElem?_cons_zero] at c2; have hp2 := hpr _ k2.1; clear hb1 hpr HN)
      | (go_at_call 9; refine hp2.mono ?_; clear hp2; rintro e W3 ⟨rfl, hb3⟩; have k3 := HS.out k2 hb3; have c3 := k3.2.cell 0; simp only [List.getElem?_toArray, List.getElem?_cons_zero] at c3; have hc3 := hck W3 k3.1; clear hb3 c2 hck)
      | (go_at_call 10; refine hc3.mono ?_; clear hc3; rintro e W4 ⟨rfl, hb4⟩; have k4 := HS.out k3 hb4; clear hb4))
    go_ret
    exact ⟨by simp, k4.1⟩
end Go.Proofs.YtbeohmcmphebhaaGreatDoor
