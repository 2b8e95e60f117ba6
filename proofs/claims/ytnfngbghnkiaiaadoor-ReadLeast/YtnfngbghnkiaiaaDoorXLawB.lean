import Derived.Test.YtnfngbghnkiaiaaDoorXWhole
import Derived.Test.YtnfngbghnkiaiaaDoorXPn
import Derived.Test.YtnfngbghnkiaiaaDoorXParG
import Derived.Test.YtnfngbghnkiaiaaDoorXPrint
import Derived.Test.YtnfngbghnkiaiaaDoorXApartD
namespace Go.Proofs.YtnfngbghnkiaiaaDoor
open Go.RowKit
open Ex.nodes (nodesL)
set_option linter.unusedVariables false
theorem er_k (e : Ex) : e.er.k = e.k := by rw [er_eq]; rfl
theorem er_S (e : Ex) : e.er.S = e.S := by rw [er_eq]; rfl
theorem er_t (e : Ex) : e.er.t = e.t := by rw [er_eq]; rfl
theorem er_kids (e : Ex) : e.er.kids = e.kids.map Ex.er := by rw [er_eq]; rfl
theorem formOk_er (e : Ex) : formOk e.er = formOk e := by
  unfold formOk textOk setOk kidsOk
  rw [er_k, er_S, er_t, er_kids, List.length_map]
theorem nodes_er : ∀ (e : Ex) (d : Int), e.er.nodes d = (e.nodes d).map fun x => (x.1, x.2.er)
  | .mk k S t a c kids, d => by
    rw [nodes_eq, nodes_eq, List.map_cons, er_kids]
    exact congrArg (List.cons _) (go kids)
  where
  go : ∀ (l : List Ex) {d : Int}, nodesL d (l.map Ex.er) = (nodesL d l).map fun x => (x.1, x.2.er)
    | [], _ => by simp [nodesL]
    | e :: r, d => by rw [List.map_cons, nodesL, nodesL, List.map_append, nodes_er e d, go r]
theorem chk_er : ∀ (l : List (Int × Ex)) (n : Nat), chk n (l.map fun x => (x.1, x.2.er)) = chk n l
  | [], n => rfl
  | (d, x) :: r, n => by
    rw [List.map_cons, chk, chk, formOk_er, chk_er r]
theorem check_er (e : Ex) : check e.er = check e := by unfold check; rw [nodes_er, chk_er]
theorem er_bare (e : Ex) : Bare e.er := by
  rw [Bare]
  exact ((same_er e e.er).1 (by
    rw [same_er]
    exact go e)).symm
  where
  go : ∀ e : Ex, e.er = e.er.er
    | .mk k S t a c kids => by
      rw [er_eq (Ex.er _), er_k, er_S, er_t, er_kids]
      rw [er_eq]
      congr 1
      rw [List.map_map]
      exact gol kids
  gol : ∀ l : List Ex, l.map Ex.er = l.map (Ex.er ∘ Ex.er)
    | [] => rfl
    | x :: r => by rw [List.map_cons, List.map_cons, gol r]; show x.er :: _ = x.er.er :: _; rw [← go x]
/-- What Parse tells: an expression, a place, an error. -/
def par (l : List UInt8) : Ex × Int × Int :=
  if 2000 < l.length then (nd 0 [], 0, 2)
  else match parse l with
    | .error s => (nd 0 [], (l.length : Int) - s.length, 4)
    | .ok x => if check x = 0 then (x, 0, 0) else (nd 0 [], 0, check x)
/-- Three results, the first of them an expression. -/
def Says3 (N : Nat) (w' : World) (R : Ex × Int × Int) (e : Ending) : Prop := ∃ y : Ex, e = .returned (.tuple #[.agg #[.int .i64 y.k, .int .u64 (wd y.S 0), .int .u64 (wd y.S 1), .int .u64 (wd y.S 2), .int .u64 (wd y.S 3), .string y.t, .slice y.a y.kids.length y.c], .int .i64 R.2.1, .int .i64 R.2.2]) ∧ y.er = R.1 ∧ y.Ou (N ≤ ·) w'
theorem says0 (N : Nat) (w' : World) (a b : Int) : Says3 N w' (nd 0 [], a, b) (.returned (.tuple #[.agg #[.int .i64 0, .int .u64 0, .int .u64 0, .int .u64 0, .int .u64 0, .string ⟨#[]⟩, .slice none 0 0], .int .i64 a, .int .i64 b])) := by
  refine ⟨nd 0 [], ?_, bare_one 0, leaf_ou _ (by decide) rfl⟩
  have := nd0_val 0
  rw [val_eq] at this
  rw [this]
theorem whole_any (T : ByteArray) (w : World) (hT : T.size ≤ 1000000) : Calls Tryd.prog 13 #[.string T] w fun e w' => WhR T w (parse T.data.toList) e w' := by
  unfold parse
  by_cases h3 : (tok T.data.toList).k = 3
  · rw [if_pos h3]; exact whole_none T w hT h3
  · rw [if_neg h3]; exact whole_some T w hT h3
set_option maxRecDepth 20000 in
set_option maxHeartbeats 4000000 in
theorem parse_any (T : ByteArray) (w : World) (hmx : T.size ≤ 140737488355328) :
    Calls Tryd.prog 8 #[.string T] w fun e w' => Says3 w.heap.size w' (par T.data.toList) e ∧ Below w.heap.size w w' := by
  have bZ := BoxN.new w 27 z7
  have hZ := (Below.refl w.heap.size w).alloc (Nat.le_refl _) (.cells z7 27)
  have HK : Hid (∀ {W1 : World}, Below (w.alloc (.cells z7 27)).heap.size (w.alloc (.cells z7 27)) W1 → BoxN W1 w.heap.size 27 z7 ∧ Below w.heap.size w W1) := fun hb => ⟨bZ.below hb (by simp), hZ.trans (hb.mono (by simp))⟩
  have HR : Hid (∀ {W1 W2 : World}, Below w.heap.size w W1 → W1.grownBy W2 (some w.heap.size) → Below w.heap.size w W2) := fun hb hg => hb.grown hg hb.size (fun k e => by cases e; exact Nat.le_refl _)
  have k0 : Hid _ := HK.out (Below.refl _ _)
  by_cases hlg : 2000 < T.size
  · have hpar : par T.data.toList = (nd 0 [], 0, 2) := by unfold par; rw [llen, if_pos hlg]
    rw [hpar]
    have HS : Hid (∀ W, Says3 w.heap.size W (nd 0 [], 0, 2) _) := fun W => says0 w.heap.size W 0 2
    have hgt : (2000 : Int) < T.size := by omega
    clear hpar bZ hZ HK
    go_enter Tryd.func8, Tryd.ntmps8
    go_wp2_with (refine wpList_store_box rfl 27 _ _ rfl w.heap.size _ rfl rfl z7 k0.out.1 Tryd.info27 rfl (by simp [Value.oneCell']) ?_; intro w2 hx2 hg2; have hc := hx2.cell)
    exact bodyPost_ret (by simp [results, Tryd.results8, go_sem, hc]) rfl ⟨HS.out w2, HR.out k0.out.2 hg2⟩
  · have hgt : ¬ (2000 : Int) < T.size := by omega
    have hwh := whole_any T (w.alloc (.cells z7 27)) (by omega)
    have hpar : par T.data.toList = (match parse T.data.toList with | .error s => (nd 0 [], (T.size : Int) - s.length, 4) | .ok x => if check x = 0 then (x, 0, 0) else (nd 0 [], 0, check x)) := by unfold par; rw [llen, if_neg hlg]
    rw [hpar]
    rw [z7_eq] at hwh
    clear hpar bZ hZ hlg
    cases hp : parse T.data.toList with
    | error s =>
      rw [hp] at hwh
      unfold WhR at hwh
      simp only at hwh ⊢
      have HS : Hid (∀ W, Says3 w.heap.size W (nd 0 [], (T.size : Int) - s.length, 4) _) := fun W => says0 w.heap.size W _ 4
      clear hp
      go_enter Tryd.func8, Tryd.ntmps8
      go_wp2_with (first
        | (go_at_call 13; refine hwh.mono ?_; clear hwh; rintro e w1 ⟨⟨y, rfl⟩, hb1⟩; rw [← z7_eq] at hb1; have k1 : Hid _ := HK.out hb1; clear hb1)
        | (refine wpList_store_box rfl 27 _ _ rfl w.heap.size _ rfl rfl z7 (k1.out.1.alloc _) Tryd.info27 rfl (by simp [Value.oneCell']) ?_; intro w2 hx2 hg2; have hc := hx2.cell))
      exact bodyPost_ret (by simp [results, Tryd.results8, go_sem, hc]) rfl ⟨HS.out w2, HR.out (k1.out.2.alloc k1.out.2.size _) hg2⟩
    | ok x =>
      rw [hp] at hwh
      unfold WhR at hwh
      simp only at hwh ⊢
      clear hp
      by_cases h0 : check x = 0
      · rw [if_pos h0]
        go_enter Tryd.func8, Tryd.ntmps8
        go_wp2_with (first
          | (go_at_call 13; refine hwh.mono ?_; clear hwh; rintro e w1 ⟨⟨y, rfl, hye, hyo⟩, hb1⟩; rw [← z7_eq] at hb1 hyo; have k1 : Hid _ := HK.out hb1; have N1 : Hid (y.Ou (w.heap.size + 1 ≤ ·) (w1.alloc (.cells y.cells 27))) := Ex.Ou.gr (World.grownBy_alloc w1 _ none) (fun b hb _ => ⟨by simp, by simpa using hb⟩) hyo; have hck := check_any y (w1.alloc (.cells y.cells 27)) N1.out.inn; have hcy : check y = 0 := by rw [← check_er, hye]; exact h0
             rw [hcy, val_eq, cells_eq] at hck; have bY := BoxN.new w1 27 y.cells; have HY : Hid (∀ {W2 : World}, Below (w1.alloc (.cells y.cells 27)).heap.size (w1.alloc (.cells y.cells 27)) W2 → BoxN W2 w1.heap.size 27 y.cells ∧ BoxN W2 w.heap.size 27 z7 ∧ Below w.heap.size w W2 ∧ y.Ou (w.heap.size + 1 ≤ ·) W2) := fun hb => ⟨bY.below hb (by simp), (k1.out.1.alloc _).below hb (by have := k1.out.1.lt; simp; omega), (k1.out.2.alloc k1.out.2.size _).trans (hb.mono (by have := k1.out.2.size; simp; omega)), N1.out.below hb (fun _ h => h)⟩
             clear hb1 hyo bY hcy)
          | (go_at_call 12; refine hck.mono ?_; clear hck; rintro e w3 ⟨rfl, hb3⟩; rw [← cells_eq] at hb3; have k3 : Hid _ := HY.out hb3; have hcy := k3.out.1.cell; rw [cells_eq] at hcy; clear hb3 HY)
          | (refine wpList_store_box rfl 27 _ _ rfl w.heap.size _ rfl rfl z7 k3.out.2.1 Tryd.info27 rfl (by simp [Value.oneCell']) ?_; intro w2 hx2 hg2; have hc := hx2.cell))
        refine bodyPost_ret (by simp [results, Tryd.results8, go_sem, hc]) rfl ⟨⟨y, rfl, hye, ?_⟩, HR.out k3.out.2.2.1 hg2⟩
        exact k3.out.2.2.2.gr hg2 (fun b hb _ => ⟨fun e => by cases e; omega, by omega⟩)
      · rw [if_neg h0]
        have hne : (check x != 0) = true := by simpa using h0
        have HS : Hid (∀ W, Says3 w.heap.size W (nd 0 [], 0, check x) _) := fun W => says0 w.heap.size W _ (check x)
        clear h0
        go_enter Tryd.func8, Tryd.ntmps8
        go_wp2_with (first
          | (go_at_call 13; refine hwh.mono ?_; clear hwh; rintro e w1 ⟨⟨y, rfl, hye, hyo⟩, hb1⟩; rw [← z7_eq] at hb1 hyo; have k1 : Hid _ := HK.out hb1; have N1 : Hid (y.Ou (w.heap.size + 1 ≤ ·) (w1.alloc (.cells y.cells 27))) := Ex.Ou.gr (World.grownBy_alloc w1 _ none) (fun b hb _ => ⟨by simp, by simpa using hb⟩) hyo; have hck := check_any y (w1.alloc (.cells y.cells 27)) N1.out.inn; have hcy : check y = check x := by rw [← check_er, hye]
             rw [hcy, val_eq, cells_eq] at hck; have HY : Hid (∀ {W2 : World}, Below (w1.alloc (.cells y.cells 27)).heap.size (w1.alloc (.cells y.cells 27)) W2 → BoxN W2 w.heap.size 27 z7 ∧ Below w.heap.size w W2) := fun hb => ⟨(k1.out.1.alloc _).below hb (by have := k1.out.1.lt; simp; omega), (k1.out.2.alloc k1.out.2.size _).trans (hb.mono (by have := k1.out.2.size; simp; omega))⟩
             clear hb1 hyo hcy hye)
          | (go_at_call 12; refine hck.mono ?_; clear hck; rintro e w3 ⟨rfl, hb3⟩; rw [← cells_eq] at hb3; have k3 : Hid _ := HY.out hb3; clear hb3 HY)
          | (refine wpList_store_box rfl 27 _ _ rfl w.heap.size _ rfl rfl z7 k3.out.1 Tryd.info27 rfl (by simp [Value.oneCell']) ?_; intro w2 hx2 hg2; have hc := hx2.cell))
        exact bodyPost_ret (by simp [results, Tryd.results8, go_sem, hc]) rfl ⟨HS.out w2, HR.out k3.out.2 hg2⟩
end Go.Proofs.YtnfngbghnkiaiaaDoor
namespace Go.Proofs.YtnfngbghnkiaiaaDoor
open Go.RowKit
set_option linter.unusedVariables false
/-- What may stand behind, where a prefix, a sequence, an alternative ends. -/
def c2 (r : List UInt8) : Prop := ok3 r ∧ nok r ∧ kindB (tok r).k = 0
def c1 (r : List UInt8) : Prop := c2 r ∧ begins (tok r).k = false
def c0 (r : List UInt8) : Prop := c1 r ∧ (tok r).k ≠ 47
def P3 (a : Ex) : Prop := ∀ n r, ok3 r → nok r → (a.bt 3 ++ r).length ≤ n → pp (preP n) (tok (a.bt 3 ++ r)) = postL (tok r).s.length a.er (tok r)
def P2 (a : Ex) : Prop := ∀ n r, c2 r → (a.bt 2 ++ r).length < n → preP n (tok (a.bt 2 ++ r)) = .ok (a.er, tok r)
def P1 (a : Ex) : Prop := ∀ n r, c1 r → (a.bt 1 ++ r).length < n → seqP (preP n) (tok (a.bt 1 ++ r)) = .ok (a.er, tok r)
def P0 (a : Ex) : Prop := ∀ n r, c0 r → (a.pr ++ r).length < n → altP (preP n) (tok (a.pr ++ r)) = .ok (a.er, tok r)
theorem seqP_begins {n : Nat} {t : Tk} {x : Ex × Tk} (h : seqP (preP n) t = .ok x) : begins t.k = true := by
  unfold seqP at h
  cases hp : preP n t with
  | error s => rw [hp, thn_error] at h; cases h
  | ok y => exact preP_begins hp
theorem altP_begins {n : Nat} {t : Tk} {x : Ex × Tk} (h : altP (preP n) t = .ok x) : begins t.k = true := by
  unfold altP at h
  cases hp : seqP (preP n) t with
  | error s => rw [hp, thn_error] at h; cases h
  | ok y => exact seqP_begins hp
theorem begins_ok3 {l : List UInt8} (h : begins (tok l).k = true) : ok3 l := by
  unfold ok3; intro e; rw [e] at h; revert h; decide
theorem begins_kindB {k : UInt8} (h : begins k = true) : kindB k = 0 := by
  rcases begins_cases h with rfl | rfl | rfl | rfl <;> rfl
theorem nok32 (l : List UInt8) : nok (32 :: l) := fun c s h => by cases h; decide
/-- The rest of a sequence. -/
def tl2 (l : List Ex) : List UInt8 := Lib.joinTail [32] (l.map (Ex.bt 2))
theorem tl2_cons (x : Ex) (l : List Ex) (r : List UInt8) : tl2 (x :: l) ++ r = 32 :: (x.bt 2 ++ (tl2 l ++ r)) := by simp [tl2, Lib.joinTail]
theorem tl2_c2 (n : Nat) : ∀ (l : List Ex) (r : List UInt8), (∀ x ∈ l, P2 x) → c1 r → (tl2 l ++ r).length < n → c2 (tl2 l ++ r) := by
  intro l
  induction l with
  | nil => intro r _ hr _; exact hr.1
  | cons x l ih =>
    intro r hx hr hn
    rw [tl2_cons] at hn ⊢
    simp at hn
    have h2 := ih r (fun y hy => hx y (List.mem_cons_of_mem _ hy)) hr (by simp; omega)
    have h3 := hx x List.mem_cons_self n (tl2 l ++ r) h2 (by simp; omega)
    have hb := preP_begins h3
    unfold c2 ok3
    rw [tok_blank]
    exact ⟨begins_ok3 hb, nok32 _, begins_kindB hb⟩
theorem seqL_items (n : Nat) : ∀ (l : List Ex) (m : Nat) (acc : List Ex) (r : List UInt8), (∀ x ∈ l, P2 x) → c1 r → (tl2 l ++ r).length < n → (tok (tl2 l ++ r)).s.length ≤ m → seqL (preP n) m acc (tok (tl2 l ++ r)) = .ok (gath 5 (acc ++ l.map Ex.er), tok r) := by
  intro l
  induction l with
  | nil =>
    intro m acc r _ hr _ _
    have e : tl2 [] ++ r = r := rfl
    rw [e]
    simp only [List.map_nil, List.append_nil]
    cases m with
    | zero => rfl
    | succ m => rw [seqL, if_neg (by rw [hr.2]; decide)]
  | cons x l ih =>
    intro m acc r hx hr hn hm
    have hc2 := tl2_c2 n l r (fun y hy => hx y (List.mem_cons_of_mem _ hy)) hr (by rw [tl2_cons] at hn; simp at hn ⊢; omega)
    rw [tl2_cons, tok_blank] at hm ⊢
    rw [tl2_cons] at hn
    simp at hn
    have h3 := hx x List.mem_cons_self n (tl2 l ++ r) hc2 (by simp; omega)
    have hb := preP_begins h3
    have hof := tok_of (x.bt 2 ++ (tl2 l ++ r)) _ (List.suffix_refl _) (begins_ok3 hb)
    have hfin := preP_fine (T := x.bt 2 ++ (tl2 l ++ r)) n _ hof (by have := tok_len (x.bt 2 ++ (tl2 l ++ r)); simp at this; omega)
    rw [h3] at hfin
    have hlt := hfin.2.1
    simp only at hlt
    cases m with
    | zero => omega
    | succ m =>
      rw [seqL, if_pos hb, h3, thn_ok]
      simp only
      rw [ih m (acc ++ [x.er]) r (fun y hy => hx y (List.mem_cons_of_mem _ hy)) hr (by simp; omega) (by omega)]
      simp
theorem P1_of (a : Ex) (ha : a.okA = true) (H : ∀ u ∈ items2 a, P2 u) : P1 a := by
  intro n r hr hn
  rw [bt1_items a] at hn ⊢
  have hne := items2_ne ha
  cases hl : items2 a with
  | nil => exact absurd hl hne
  | cons x l =>
    rw [hl] at H hn
    rw [List.map_cons, Lib.join_cons, List.append_assoc] at hn ⊢
    rw [show Lib.joinTail [32] (l.map (Ex.bt 2)) = tl2 l from rfl] at hn ⊢
    simp at hn
    have hc := tl2_c2 n l r (fun y hy => H y (List.mem_cons_of_mem _ hy)) hr (by simp; omega)
    have h3 := H x List.mem_cons_self n (tl2 l ++ r) hc (by simp; omega)
    unfold seqP
    rw [h3, thn_ok]
    simp only
    rw [seqL_items n l _ [x.er] r (fun y hy => H y (List.mem_cons_of_mem _ hy)) hr (by simp; omega) (Nat.le_refl _)]
    congr 2
    have hg : [x.er] ++ l.map Ex.er = (items2 a).map Ex.er := by rw [hl]; rfl
    rw [hg]
    unfold items2
    by_cases h5 : a.k = 5
    · rw [if_pos h5]
      have h2 := kids_two ha (.inl h5)
      unfold gath
      rw [if_neg (by rw [List.length_map]; omega), nd_er a ha (by omega), h5]
    · rw [if_neg h5]; rfl
/-- The rest of alternatives. -/
def tl1 (l : List Ex) : List UInt8 := Lib.joinTail [32, 47, 32] (l.map (Ex.bt 1))
theorem tl1_cons (x : Ex) (l : List Ex) (r : List UInt8) : tl1 (x :: l) ++ r = 32 :: 47 :: 32 :: (x.bt 1 ++ (tl1 l ++ r)) := by simp [tl1, Lib.joinTail]
theorem tl1_c1 : ∀ (l : List Ex) (r : List UInt8), c0 r → c1 (tl1 l ++ r) := by
  intro l r hr
  cases l with
  | nil => exact hr.1
  | cons x l =>
    rw [tl1_cons]
    unfold c1 c2 ok3
    rw [tok_blank, tok_sign 47 _ rfl]
    exact ⟨⟨show (47 : UInt8) ≠ 3 from by decide, nok32 _, rfl⟩, rfl⟩
theorem altL_items (n : Nat) : ∀ (l : List Ex) (m : Nat) (acc : List Ex) (r : List UInt8), (∀ x ∈ l, P1 x) → c0 r → (tl1 l ++ r).length < n → (tok (tl1 l ++ r)).s.length ≤ m → altL (preP n) m acc (tok (tl1 l ++ r)) = .ok (gath 6 (acc ++ l.map Ex.er), tok r) := by
  intro l
  induction l with
  | nil =>
    intro m acc r _ hr _ _
    have e : tl1 [] ++ r = r := rfl
    rw [e]
    simp only [List.map_nil, List.append_nil]
    cases m with
    | zero => rfl
    | succ m => rw [altL, if_neg hr.2]
  | cons x l ih =>
    intro m acc r hx hr hn hm
    have hc := tl1_c1 l r hr
    rw [tl1_cons, tok_blank, tok_sign 47 _ rfl] at hm ⊢
    rw [tl1_cons] at hn
    simp at hn hm
    have h3 := hx x List.mem_cons_self n (tl1 l ++ r) hc (by simp; omega)
    have hb := seqP_begins h3
    have h4 : ok3 (32 :: (x.bt 1 ++ (tl1 l ++ r))) := by unfold ok3; rw [tok_blank]; exact begins_ok3 hb
    cases m with
    | zero => omega
    | succ m =>
      rw [altL, if_pos rfl, take_tk h4, thn_ok, tok_blank, h3, thn_ok]
      simp only
      have hl := tok_len (tl1 l ++ r)
      simp at hl
      rw [ih m (acc ++ [x.er]) r (fun y hy => hx y (List.mem_cons_of_mem _ hy)) hr (by simp; omega) (by omega)]
      simp
theorem P0_of (a : Ex) (ha : a.okA = true) (H : ∀ u ∈ items1 a, P1 u) : P0 a := by
  intro n r hr hn
  rw [pr_items a] at hn ⊢
  have hne := items1_ne ha
  cases hl : items1 a with
  | nil => exact absurd hl hne
  | cons x l =>
    rw [hl] at H hn
    rw [List.map_cons, Lib.join_cons, List.append_assoc] at hn ⊢
    rw [show Lib.joinTail [32, 47, 32] (l.map (Ex.bt 1)) = tl1 l from rfl] at hn ⊢
    simp at hn
    have hc := tl1_c1 l r hr
    have h3 := H x List.mem_cons_self n (tl1 l ++ r) hc (by simp; omega)
    unfold altP
    rw [h3, thn_ok]
    simp only
    rw [altL_items n l _ [x.er] r (fun y hy => H y (List.mem_cons_of_mem _ hy)) hr (by simp; omega) (Nat.le_refl _)]
    congr 2
    have hg : [x.er] ++ l.map Ex.er = (items1 a).map Ex.er := by rw [hl]; rfl
    rw [hg]
    unfold items1
    by_cases h6 : a.k = 6
    · rw [if_pos h6]
      have h2 := kids_two ha (.inr h6)
      unfold gath
      rw [if_neg (by rw [List.length_map]; omega), nd_er a ha (by omega), h6]
    · rw [if_neg h6]; rfl
theorem c0_41 (r : List UInt8) : c0 (41 :: r) := by
  unfold c0 c1 c2 ok3
  rw [tok_sign 41 _ rfl]
  exact ⟨⟨⟨show (41 : UInt8) ≠ 3 from by decide, fun c s h => by cases h; decide, rfl⟩, rfl⟩, show (41 : UInt8) ≠ 47 from by decide⟩
theorem sgn_kind (k : Int) (h : 7 ≤ k ∧ k ≤ 9) : kindB (sgn k) = k ∧ isSg (sgn k) = true := by
  have : k = 7 ∨ k = 8 ∨ k = 9 := by omega
  rcases this with rfl | rfl | rfl <;> decide
set_option maxHeartbeats 1000000 in
theorem back_all : ∀ (N : Nat) (a : Ex), a.size ≤ N → a.okA = true → P2 a ∧ P3 a := by
  intro N
  induction N with
  | zero => intro a h; rw [size_eq] at h; omega
  | succ N ih =>
    intro a haN ha
    have hkid : ∀ x ∈ a.kids, P2 x ∧ P3 x := fun x hx => ih x (by have := size_kid hx; omega) (okA_kid ha hx)
    have hpre : a.k = 10 ∨ a.k = 11 → P2 a := by
      intro hk n r hr hn
      obtain ⟨x, hx, hxo, hxs⟩ := star_kid ha (by omega)
      have hx2 := (ih x (by omega) hxo).1
      have he := nd_er a ha (by omega)
      rw [hx] at he
      cases n with
      | zero => omega
      | succ n =>
        rcases hk with hk | hk
        · have hb := pre_bt 38 10 (.inl ⟨rfl, rfl⟩) a x hk hx
          rw [hb, List.cons_append] at hn ⊢
          have h3 := hx2 n r hr (by simpa using hn)
          rw [tok_sign 38 _ rfl, preP, if_pos rfl, take_tk (begins_ok3 (preP_begins h3)), thn_ok, h3, thn_ok, he, hk]
          rfl
        · have hb := pre_bt 33 11 (.inr ⟨rfl, rfl⟩) a x hk hx
          rw [hb, List.cons_append] at hn ⊢
          have h3 := hx2 n r hr (by simpa using hn)
          rw [tok_sign 33 _ rfl, preP, if_neg (show ¬ (33 : UInt8) = 38 from by decide), if_pos rfl, take_tk (begins_ok3 (preP_begins h3)), thn_ok, h3, thn_ok, he, hk]
          rfl
    have h0 : a.k = 5 ∨ a.k = 6 ∨ a.k = 10 ∨ a.k = 11 → P0 a := by
      intro hk
      refine P0_of a ha fun u hu => ?_
      by_cases h6 : a.k = 6
      · unfold items1 at hu
        rw [if_pos h6] at hu
        have hus := size_kid hu
        refine P1_of u (okA_kid ha hu) fun v hv => (ih v ?_ (items2_ok (okA_kid ha hu) v hv)).1
        exact items2_size N (by omega) v hv
      · unfold items1 at hu
        rw [if_neg h6] at hu
        simp at hu
        subst hu
        refine P1_of u ha fun v hv => ?_
        by_cases h5 : u.k = 5
        · unfold items2 at hv
          rw [if_pos h5] at hv
          exact (hkid v hv).1
        · unfold items2 at hv
          rw [if_neg h5] at hv
          simp at hv
          subst hv
          exact hpre (by omega)
    have h3 : P3 a := by
      intro n r hr hn hlen
      by_cases h7 : 7 ≤ a.k ∧ a.k ≤ 9
      · obtain ⟨x, hx, hxo, hxs⟩ := star_kid ha h7.1
        obtain ⟨hs1, hs2⟩ := sgn_kind a.k h7
        have hb := star_bt a x h7 hx
        rw [hb, List.append_assoc, List.singleton_append] at hlen ⊢
        rw [(ih x (by omega) hxo).2 n (sgn a.k :: r) (ok3_sign _ _ hs2) (fun c s h => by cases h; exact post_not_ok _ (sgn_post _)) hlen]
        rw [tok_sign _ r hs2]
        show postL (r.length + 1) x.er _ = _
        rw [postL]
        simp only
        rw [hs1, if_neg (by omega), take_tk hr, thn_ok, postL_any _ (tok r).s.length _ r (tok_len r) (Nat.le_refl _) hr]
        have he := nd_er a ha (by omega)
        rw [hx] at he
        rw [he]; rfl
      · unfold pp
        rw [prim_base (preP n) a ha h7 r hr hn, thn_ok]
        intro hk
        have hbk := bt_brk 3 a (by have := tight_cases a.k; omega)
        rw [hbk] at hlen
        have := h0 hk n (41 :: r) (c0_41 r) (by simp at hlen ⊢; omega)
        exact ⟨this, altP_begins this⟩
    refine ⟨?_, h3⟩
    by_cases hk : a.k = 10 ∨ a.k = 11
    · exact hpre hk
    · intro n r hr hn
      rw [bt23 a (by omega)] at hn ⊢
      cases n with
      | zero => omega
      | succ n =>
        have h4 := h3 n r hr.1 hr.2.1 (by omega)
        rw [postL_no hr.2.2] at h4
        have hnb : (tok (a.bt 3 ++ r)).k = 1 ∨ (tok (a.bt 3 ++ r)).k = 40 := by
          unfold pp primP at h4
          by_cases h1 : (tok (a.bt 3 ++ r)).k = 1
          · exact .inl h1
          · by_cases h40 : (tok (a.bt 3 ++ r)).k = 40
            · exact .inr h40
            · rw [if_neg h1, if_neg h40, thn_error] at h4; cases h4
        rw [preP, if_neg (by rcases hnb with h | h <;> rw [h] <;> decide), if_neg (by rcases hnb with h | h <;> rw [h] <;> decide)]
        exact h4
/-- What is printed is read as it was. -/
theorem parse_pr (a : Ex) (ha : a.okA = true) : parse a.pr = .ok a.er := by
  have h0 : P0 a := P0_of a ha fun u hu => P1_of u (items1_ok ha u hu) fun v hv => (back_all v.size v (Nat.le_refl _) (items2_ok (items1_ok ha u hu) v hv)).1
  have hc : c0 [] := ⟨⟨⟨show (0 : UInt8) ≠ 3 from by decide, (show nok [] from fun c s h => by cases h), rfl⟩, rfl⟩, show (0 : UInt8) ≠ 47 from by decide⟩
  have := h0 (a.pr.length + 1) [] hc (by simp)
  rw [List.append_nil] at this
  unfold parse
  rw [if_neg (begins_ok3 (altP_begins this)), this, thn_ok]
  rfl
theorem par_pr (a : Ex) (h : check a = 0) (hl : a.pr.length ≤ 2000) : par a.pr = (a.er, 0, 0) := by
  unfold par
  rw [if_neg (by omega), parse_pr a (okA_check a h)]
  simp only
  rw [check_er, if_pos h]
end Go.Proofs.YtnfngbghnkiaiaaDoor
namespace Go.Proofs.YtnfngbghnkiaiaaDoor
open Go.RowKit
set_option linter.unusedVariables false
theorem parK_alt : (par [97, 32, 47, 32, 98]).2.2 = 0 ∧ (par [97, 32, 47, 32, 98]).1.k = 6 := by decide +kernel
theorem parK_not : (par [33, 97]).2.2 = 0 ∧ (par [33, 97]).1.k = 11 := by decide +kernel
theorem parK_rem : (par [35, 32, 120, 10, 97, 32, 35]).2.2 = 0 ∧ (par [35, 32, 120, 10, 97, 32, 35]).1.k = 4 := by decide +kernel
/-- A text that the law itself reads: no error, and of its kind. -/
theorem parse_const (T : ByteArray) (k : Int) (h : (par T.data.toList).2.2 = 0 ∧ (par T.data.toList).1.k = k) (hT : T.size ≤ 2000) (w : World) :
    Calls Tryd.prog 8 #[.string T] w fun e w' => (∃ (y : Ex) (n : Int), e = .returned (.tuple #[.agg #[.int .i64 k, .int .u64 (wd y.S 0), .int .u64 (wd y.S 1), .int .u64 (wd y.S 2), .int .u64 (wd y.S 3), .string y.t, .slice y.a y.kids.length y.c], .int .i64 n, .int .i64 0])) ∧ Below w.heap.size w w' := by
  refine (parse_any T w (by omega)).mono ?_
  rintro e w' ⟨⟨y, rfl, hye, hyo⟩, hb⟩
  refine ⟨⟨y, (par T.data.toList).2.1, ?_⟩, hb⟩
  rw [h.1, show y.k = k from by rw [← er_k, hye]; exact h.2]
theorem In_grow2 {e : Ex} {w W : World} (h : e.In w.heap.size w) (hb : Below w.heap.size w W) : e.In W.heap.size W := h.grow hb
/-- An expression that lies, and its box. -/
def Hd (e : Ex) (w W : World) : Prop := BoxN W w.heap.size 27 e.cells ∧ Below w.heap.size w W
theorem Hd.next {e : Ex} {w W W2 : World} (h : Hd e w W) (hb : Below W.heap.size W W2) : Hd e w W2 := ⟨h.1.below hb h.1.lt, h.2.trans (hb.mono h.2.size)⟩
theorem Hd.alloc {e : Ex} {w W : World} (h : Hd e w W) (o : Obj) : Hd e w (W.alloc o) := h.next ((Below.refl _ _).alloc (Nat.le_refl _) o)
set_option maxRecDepth 20000 in
set_option maxHeartbeats 4000000 in
theorem back_any (e : Ex) (w : World) (hin : e.In w.heap.size w) :
    Calls Tryd.prog 4 #[e.val] w fun r W' => r = .returned (.bool true) ∧ Below w.heap.size w W' := by
  have H0 : Hid (Hd e w (w.alloc (.cells e.cells 27))) := ⟨BoxN.new w 27 e.cells, (Below.refl w.heap.size w).alloc (Nat.le_refl _) _⟩
  have hcs := parse_const ⟨#[97, 32, 47, 32, 98]⟩ 6 parK_alt (by decide) (w.alloc (.cells e.cells 27))
  have hpr : ∀ W, Hd e w W → _ := fun W h => print_any e W (hin.grow h.2)
  have hck : ∀ W, Hd e w W → _ := fun W h => check_any e W (hin.grow h.2)
  rw [val_eq] at hpr hck
  rw [val_eq]
  rw [cells_eq] at hcs
  by_cases h0 : check e = 0
  · have hp2 : prR e = e.pr := by unfold prR; rw [if_pos h0]
    have h60 := ((check_zero e).1 h0).1
    have hlen := pr_len e (okA_check e h0)
    rw [hp2, h0] at hpr
    have hpa : ∀ W, _ := fun W => parse_any ⟨e.pr.toArray⟩ W (by rw [mk_size]; omega)
    rw [show (⟨e.pr.toArray⟩ : ByteArray).data.toList = e.pr from rfl] at hpa
    have hsz := mk_size e.pr
    by_cases hlg : 2000 < e.pr.length
    · have hpar : par e.pr = (nd 0 [], 0, 2) := by unfold par; rw [if_pos hlg]
      rw [hpar] at hpa
      unfold Says3 at hpa
      simp only at hpa
      generalize (⟨e.pr.toArray⟩ : ByteArray) = T at *
      have hgt : (2000 : Int) < T.size := by omega
      clear hpar hlg hlen h60 hp2 h0 hsz hck
      go_enter Tryd.func4, Tryd.ntmps4
      go_wp2_with (first
        | (go_at_call 8; refine hcs.mono ?_; clear hcs; rintro r W1 ⟨⟨y1, n1, rfl⟩, hb1⟩; rw [← cells_eq] at hb1; have K1 : Hid _ := (H0.out.next hb1).alloc (.cells #[.int .i64 6, .int .u64 (wd y1.S 0), .int .u64 (wd y1.S 1), .int .u64 (wd y1.S 2), .int .u64 (wd y1.S 3), .string y1.t, .slice y1.a y1.kids.length y1.c] 27); have cE1 := K1.out.1.cell; rw [cells_eq] at cE1; clear hb1)
        | (go_at_call 11; refine (hpr _ K1.out).mono ?_; clear hpr; rintro r W2 ⟨rfl, hb2⟩; have K2 : Hid _ := Hd.next (e := e) (w := w) K1.out hb2; clear hb2 cE1)
        | (go_at_call 8; refine (hpa _).mono ?_; clear hpa; rintro r W3 ⟨⟨y3, rfl, hye, hyo⟩, hb3⟩; have K3 : Hid _ := (Hd.next (e := e) (w := w) K2.out hb3).alloc (.cells #[.int .i64 y3.k, .int .u64 (wd y3.S 0), .int .u64 (wd y3.S 1), .int .u64 (wd y3.S 2), .int .u64 (wd y3.S 3), .string y3.t, .slice y3.a y3.kids.length y3.c] 27); clear hyo hye hb3))
      go_ret
      exact ⟨rfl, K3.out.2⟩
    · have hpar := par_pr e h0 (by omega)
      rw [hpar] at hpa
      unfold Says3 at hpa
      simp only at hpa
      generalize (⟨e.pr.toArray⟩ : ByteArray) = T at *
      have hgt : ¬ (2000 : Int) < T.size := by omega
      have hsm : Hid (∀ (y : Ex) W, Hd e w W → y.In W.heap.size W → y.er = e.er → Calls Tryd.prog 10 #[e.val, y.val] W fun r w' => r = .returned (.bool true) ∧ Below W.heap.size W w') := fun y W h hy he => by
        have := same_any e y W (hin.grow h.2) hy
        rw [(same_er e y).2 he.symm] at this
        exact this
      clear hpar hlg hlen h60 hp2 h0 hsz hck
      go_enter Tryd.func4, Tryd.ntmps4
      go_wp2_with (first
        | (go_at_call 8; refine hcs.mono ?_; clear hcs; rintro r W1 ⟨⟨y1, n1, rfl⟩, hb1⟩; rw [← cells_eq] at hb1; have K1 : Hid _ := (H0.out.next hb1).alloc (.cells #[.int .i64 6, .int .u64 (wd y1.S 0), .int .u64 (wd y1.S 1), .int .u64 (wd y1.S 2), .int .u64 (wd y1.S 3), .string y1.t, .slice y1.a y1.kids.length y1.c] 27); have cE1 := K1.out.1.cell; rw [cells_eq] at cE1; clear hb1)
        | (go_at_call 11; refine (hpr _ K1.out).mono ?_; clear hpr; rintro r W2 ⟨rfl, hb2⟩; have K2 : Hid _ := Hd.next (e := e) (w := w) K1.out hb2; clear hb2 cE1)
        | (go_at_call 8; refine (hpa _).mono ?_; clear hpa; rintro r W3 ⟨⟨y3, rfl, hye, hyo⟩, hb3⟩; have K3 : Hid _ := (Hd.next (e := e) (w := w) K2.out hb3).alloc (.cells y3.cells 27); have I3 : Hid (y3.In (W3.alloc (.cells y3.cells 27)).heap.size (W3.alloc (.cells y3.cells 27))) := (Ex.Ou.gr (World.grownBy_alloc W3 (.cells y3.cells 27) none) (Q := fun _ => True) (fun _ _ _ => ⟨by simp, trivial⟩) hyo).inn; have cE3 := K3.out.1.cell; have cY3 := (BoxN.new W3 27 y3.cells).cell; rw [cells_eq] at cE3 cY3; have hs3 := hsm.out y3 _ K3.out I3.out hye; rw [val_eq, val_eq] at hs3; simp only [cells_eq] at hs3 cE3 cY3; clear hyo hb3)
        | (go_at_call 10; refine hs3.mono ?_; clear hs3; rintro r W4 ⟨rfl, hb4⟩; simp only [← cells_eq] at hb4; have K4 : Hid _ := Hd.next (e := e) (w := w) K3.out hb4; clear hb4))
      go_ret
      exact ⟨rfl, K4.out.2⟩
  · have g : (check e != 0) = true := by simpa using h0
    have hp2 : prR e = [] := by unfold prR; rw [if_neg h0]
    rw [hp2] at hpr
    have hcc : (check e == check e) = true := by simp
    go_enter Tryd.func4, Tryd.ntmps4
    go_wp2_with (first
      | (go_at_call 8; refine hcs.mono ?_; clear hcs; rintro r W1 ⟨⟨y1, n1, rfl⟩, hb1⟩; rw [← cells_eq] at hb1; have K1 : Hid _ := (H0.out.next hb1).alloc (.cells #[.int .i64 6, .int .u64 (wd y1.S 0), .int .u64 (wd y1.S 1), .int .u64 (wd y1.S 2), .int .u64 (wd y1.S 3), .string y1.t, .slice y1.a y1.kids.length y1.c] 27); have cE1 := K1.out.1.cell; rw [cells_eq] at cE1; clear hb1)
      | (go_at_call 11; refine (hpr _ K1.out).mono ?_; clear hpr; rintro r W2 ⟨rfl, hb2⟩; have K2 : Hid _ := Hd.next (e := e) (w := w) K1.out hb2; have cE2 := K2.out.1.cell; rw [cells_eq] at cE2; clear hb2 cE1)
      | (go_at_call 12; refine (hck _ K2.out).mono ?_; clear hck; rintro r W3 ⟨rfl, hb3⟩; have K3 : Hid _ := Hd.next (e := e) (w := w) K2.out hb3; clear hb3))
    go_ret
    exact ⟨by simp, K3.out.2⟩
end Go.Proofs.YtnfngbghnkiaiaaDoor
