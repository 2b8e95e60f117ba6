import Derived.Test.YtbeohmcmphebhaaDoorXOverP
import Derived.Test.YtbeohmcmphebhaaDoorXParts
namespace Go.Proofs.YtbeohmcmphebhaaDoor
open Go.RowKit
open Ex.nodes (nodesL)
set_option linter.unusedVariables false
theorem er_k (e : Ex) : e.er.k = e.k := by rw [er_eq]; rfl
theorem er_S (e : Ex) : e.er.S = e.S := by rw [er_eq]; rfl
theorem er_t (e : Ex) : e.er.t = e.t := by rw [er_eq]; rfl
theorem er_kids (e : Ex) : e.er.kids = e.kids.map Ex.er := by rw [er_eq]; rfl
theorem formOk_er (e : Ex) : formOk e.er = formOk e := by
  unfold formOk textOk setOk kidsOk
  rw [er_k, er_S, er_t, er_kids, List.length_map]
theorem nodes_er : ∀ (e : Ex) (d : Int), e.er.nodes d = (e.nodes d).map fun x => (x.1, x.2.er)
  | .mk k S t a c kids, d => by
    rw [nodes_eq, nodes_eq, List.map_cons, er_kids]
    exact congrArg (List.cons _) (go kids)
  where
  go : ∀ (l : List Ex) {d : Int}, nodesL d (l.map Ex.er) = (nodesL d l).map fun x => (x.1, x.2.er)
    | [], _ => by simp [nodesL]
    | e :: r, d => by rw [List.map_cons, nodesL, nodesL, List.map_append, nodes_er e d, go r]
theorem chk_er : ∀ (l : List (Int × Ex)) (n : Nat), chk n (l.map fun x => (x.1, x.2.er)) = chk n l
  | [], n => rfl
  | (d, x) :: r, n => by
    rw [List.map_cons, chk, chk, formOk_er, chk_er r]
theorem check_er (e : Ex) : check e.er = check e := by unfold check; rw [nodes_er, chk_er]
/-- What Parse tells: an expression, a place, an error. -/
def pread (l : List UInt8) : Ex × Int × Int :=
  if 2000 < l.length then (nd 0 [], 0, 2) else
  match parse l with
  | .error s => (nd 0 [], (l.length : Int) - s.length, 4)
  | .ok e => if check e ≠ 0 then (nd 0 [], 0, check e) else (e, 0, 0)
def PPR (T : ByteArray) (w : World) (e : Ending) (w' : World) : Prop := Below w.heap.size w w' ∧ ∃ y : Ex, e = .returned (.tuple #[.agg #[.int .i64 y.k, .int .u64 (wd y.S 0), .int .u64 (wd y.S 1), .int .u64 (wd y.S 2), .int .u64 (wd y.S 3), .string y.t, .slice y.a y.kids.length y.c], .int .i64 (pread T.data.toList).2.1, .int .i64 (pread T.data.toList).2.2]) ∧ y.er = (pread T.data.toList).1 ∧ y.Ou (w.heap.size ≤ ·) w'
theorem BoxN.newK {W : World} {K : Nat} {t : TypeId} {cs : Array Value} (h : W.heap.size = K) : BoxN (W.alloc (.cells cs t)) K t cs := by rw [← h]; exact BoxN.new W t cs
theorem nd0_in (W : World) : (nd 0 []).In W.heap.size W := (leaf_ou (P := fun _ => True) (nd 0 []) (by decide) rfl).inn
theorem ppr_no {T : ByteArray} {w w' : World} (h : Below w.heap.size w w') {a c : Int} (hg : pread T.data.toList = (nd 0 [], a, c)) : PPR T w (.returned (.tuple #[.agg z7, .int .i64 a, .int .i64 c])) w' := by
  refine ⟨h, nd 0 [], ?_, ?_, leaf_ou _ (by decide) rfl⟩
  · rw [hg]
    have := nd0_val 0
    rw [val_eq] at this
    simp only [Value.agg.injEq] at this
    rw [this]; rfl
  · rw [hg]; exact bare_one 0
theorem pread_err {T : ByteArray} (hT : ¬ 2000 < T.size) {s : List UInt8} (h : parse T.data.toList = .error s) : pread T.data.toList = (nd 0 [], (T.size : Int) - s.length, 4) := by
  unfold pread; rw [if_neg (by rw [llen]; exact hT), h, llen]
theorem pread_ok {T : ByteArray} (hT : ¬ 2000 < T.size) {y : Ex} (h : parse T.data.toList = .ok y.er) : pread T.data.toList = if check y ≠ 0 then (nd 0 [], 0, check y) else (y.er, 0, 0) := by
  unfold pread; rw [if_neg (by rw [llen]; exact hT), h]
  simp only
  rw [check_er]
theorem pread_large {T : ByteArray} (hT : 2000 < T.size) : pread T.data.toList = (nd 0 [], 0, 2) := by
  unfold pread; rw [if_pos (by rw [llen]; exact hT)]
set_option maxRecDepth 20000 in
set_option maxHeartbeats 8000000 in
theorem parse_ou (T : ByteArray) (w : World) (hmx : T.size ≤ 140737488355328) : Calls Tryd.prog 8 #[.string T] w fun e w' => PPR T w e w' := by
  have bV := BoxN.newK (W := w.alloc (.cells z7 27)) (K := w.heap.size + 1) (t := 27) (cs := z7) (by simp)
  have bR := (BoxN.new w 27 z7).alloc (.cells z7 27)
  have hb0 := ((Below.refl w.heap.size w).alloc (Nat.le_refl _) (.cells z7 27)).alloc (by simp) (.cells z7 27)
  have HB : Hid (∀ {W}, ((w.alloc (.cells z7 27)).alloc (.cells z7 27)).grownBy W (some (w.heap.size + 1)) → BoxN W w.heap.size 27 z7 ∧ Below w.heap.size w W) := fun hg => ⟨bR.kept hg (fun e => by have := Option.some.inj e; omega), hb0.grown hg hb0.size (fun k e => by have := Option.some.inj e; omega)⟩
  have hsz : ((w.alloc (.cells z7 27)).alloc (.cells z7 27)).heap.size = w.heap.size + 1 + 1 := by simp
  have hmf : ∀ (fn : Fn) (first cap : Array Value) (w : World), (Instr.makeFunc fn first cap).run Tryd.prog w = .ok (.func fn first cap) w := fun _ _ _ _ => rfl
  by_cases hL : 2000 < T.size
  · have hgo := goOver_large T (w.heap.size + 1) _ (.func (.func 14) #[] #[.pointer (some ⟨w.heap.size + 1, 0, none⟩)]) hL z7 rfl bV
    have HP : Hid (pread T.data.toList = (nd 0 [], 0, 2)) := pread_large hL
    rw [z7_eq] at hgo
    clear hL bV bR hb0 hsz
    go_enter Tryd.func8, Tryd.ntmps8
    go_wp2_with (first
      | (go_at_call 13; refine hgo.mono ?_; clear hgo; rintro e w1 ⟨rfl, hg1⟩; rw [← z7_eq] at hg1; have K1 : Hid _ := HB.out hg1; clear hg1 HB)
      | (refine wpList_store_box rfl 27 _ _ rfl w.heap.size _ rfl rfl z7 K1.out.1 Tryd.info27 rfl (by simp [Value.oneCell']) ?_; intro w5 hx5 hg5; have hc := hx5.cell))
    refine bodyPost_ret (v := .tuple #[.agg z7, .int .i64 0, .int .i64 2]) (by simp [results, Tryd.results8, go_sem, hc, z7_eq]) rfl ?_
    exact ppr_no (K1.out.2.grown hg5 K1.out.2.size (fun k e => by have := Option.some.inj e; omega)) HP.out
  · have hgo := goOver_any T (w.heap.size + 1) _ (by omega) z7 rfl bV
    cases hr : parse T.data.toList with
    | error s =>
      have HP : Hid (pread T.data.toList = (nd 0 [], (T.size : Int) - s.length, 4)) := pread_err hL hr
      rw [hr] at hgo
      unfold GoR at hgo
      simp only at hgo
      rw [z7_eq] at hgo
      clear hL bV bR hb0 hsz hr
      go_enter Tryd.func8, Tryd.ntmps8
      go_wp2_with (first
        | (go_at_call 13; refine hgo.mono ?_; clear hgo; rintro e w1 ⟨rfl, hg1⟩; rw [← z7_eq] at hg1; have K1 : Hid _ := HB.out hg1; clear hg1 HB)
        | (refine wpList_store_box rfl 27 _ _ rfl w.heap.size _ rfl rfl z7 K1.out.1 Tryd.info27 rfl (by simp [Value.oneCell']) ?_; intro w5 hx5 hg5; have hc := hx5.cell))
      refine bodyPost_ret (v := .tuple #[.agg z7, .int .i64 ((T.size : Int) - s.length), .int .i64 4]) (by simp [results, Tryd.results8, go_sem, hc, z7_eq]) rfl ?_
      exact ppr_no (K1.out.2.grown hg5 K1.out.2.size (fun k e => by have := Option.some.inj e; omega)) HP.out
    | ok x =>
      have HP : Hid (∀ y : Ex, y.er = x → pread T.data.toList = if check y ≠ 0 then (nd 0 [], 0, check y) else (y.er, 0, 0)) := fun y h => pread_ok hL (by rw [hr, h])
      rw [hr] at hgo
      unfold GoR at hgo
      simp only at hgo
      have HSZ : Hid (((w.alloc (.cells z7 27)).alloc (.cells z7 27)).heap.size = w.heap.size + 1 + 1) := hsz
      have HC : Hid (∀ (y : Ex) (c : Int), y.er = x → check y = c → check x = c) := fun y c h1 h2 => by rw [← h1, check_er]; exact h2
      obtain ⟨C, hC⟩ : ∃ C, C = check x := ⟨_, rfl⟩
      have HCC : Hid (C = check x) := hC
      rw [z7_eq] at hgo
      clear hL bV bR hb0 hsz hr hC
      have hck : ∀ (y : Ex) (W : World), y.er = x → y.In W.heap.size W → Calls Tryd.prog 12 #[.agg #[.int .i64 y.k, .int .u64 (wd y.S 0), .int .u64 (wd y.S 1), .int .u64 (wd y.S 2), .int .u64 (wd y.S 3), .string y.t, .slice y.a y.kids.length y.c]] W fun r W' => r = .returned (.int .i64 C) ∧ Below W.heap.size W W' := fun y W h1 h2 => by
        have := check_any y W h2
        rw [HCC.out, ← h1, check_er]
        exact this
      by_cases hc0 : C = 0
      · subst hc0
        go_enter Tryd.func8, Tryd.ntmps8
        go_wp2_with (first
          | (go_at_call 13; refine hgo.mono ?_; clear hgo; rintro e w1 ⟨rfl, hg1, y, hye, bV1, hyo⟩; rw [← z7_eq] at hg1 hyo; have K1 : Hid _ := HB.out hg1; have HV : Hid (BoxN w1 (w.heap.size + 1) 27 y.cells ∧ y.Ou (w.heap.size + 1 + 1 ≤ ·) w1 ∧ y.er = x) := ⟨bV1, by rw [← HSZ.out]; exact hyo, hye⟩; have cV := bV1.cell; rw [cells_eq] at cV; have hk1 := hck y w1 hye hyo.inn; clear hg1 HB hye hyo bV1 hck)
          | (go_at_call 12; refine hk1.mono ?_; clear hk1; rintro e w2 ⟨rfl, hb2⟩; have K2 : Hid (BoxN w2 w.heap.size 27 z7 ∧ Below w.heap.size w w2 ∧ BoxN w2 (w.heap.size + 1) 27 y.cells ∧ y.Ou (w.heap.size + 1 + 1 ≤ ·) w2) := ⟨K1.out.1.below hb2 K1.out.1.lt, K1.out.2.trans (hb2.mono K1.out.2.size), HV.out.1.below hb2 HV.out.1.lt, HV.out.2.1.below hb2 (fun _ h => h)⟩; have cV2 := K2.out.2.2.1.cell; rw [cells_eq] at cV2; clear hb2 cV)
          | (refine wpList_store_box rfl 27 _ _ rfl w.heap.size _ rfl rfl z7 K2.out.1 Tryd.info27 rfl (by simp [Value.oneCell']) ?_; intro w5 hx5 hg5; have hc := hx5.cell))
        have hp := HP.out y HV.out.2.2
        rw [if_neg (by rw [← check_er, HV.out.2.2, ← HCC.out]; simp)] at hp
        refine bodyPost_ret (v := .tuple #[.agg #[.int .i64 y.k, .int .u64 (wd y.S 0), .int .u64 (wd y.S 1), .int .u64 (wd y.S 2), .int .u64 (wd y.S 3), .string y.t, .slice y.a y.kids.length y.c], .int .i64 0, .int .i64 0]) (by simp [results, Tryd.results8, go_sem, hc]) rfl ?_
        refine ⟨K2.out.2.1.grown hg5 K2.out.2.1.size (fun k e => by have := Option.some.inj e; omega), y, by rw [hp], by rw [hp], ?_⟩
        exact K2.out.2.2.2.gr hg5 (fun b hb _ => ⟨fun e => by have := Option.some.inj e; omega, by omega⟩)
      · have gC : (C == 0) = false := by simpa using hc0
        have gC' : (C != 0) = true := by simpa using hc0
        go_enter Tryd.func8, Tryd.ntmps8
        go_wp2_with (first
          | (go_at_call 13; refine hgo.mono ?_; clear hgo; rintro e w1 ⟨rfl, hg1, y, hye, bV1, hyo⟩; rw [← z7_eq] at hg1 hyo; have K1 : Hid _ := HB.out hg1; have HV : Hid (y.er = x) := hye; have cV := bV1.cell; rw [cells_eq] at cV; have hk1 := hck y w1 hye hyo.inn; clear hg1 HB hye hyo bV1 hck)
          | (go_at_call 12; refine hk1.mono ?_; clear hk1; rintro e w2 ⟨rfl, hb2⟩; have K2 : Hid (BoxN w2 w.heap.size 27 z7 ∧ Below w.heap.size w w2) := ⟨K1.out.1.below hb2 K1.out.1.lt, K1.out.2.trans (hb2.mono K1.out.2.size)⟩; clear hb2 cV)
          | (refine wpList_store_box rfl 27 _ _ rfl w.heap.size _ rfl rfl z7 K2.out.1 Tryd.info27 rfl (by simp [Value.oneCell']) ?_; intro w5 hx5 hg5; have hc := hx5.cell))
        have hp := HP.out y HV.out
        rw [if_pos (by rw [← check_er, HV.out, ← HCC.out]; exact hc0), show check y = C from by rw [HCC.out, ← HV.out, check_er]] at hp
        refine bodyPost_ret (v := .tuple #[.agg z7, .int .i64 0, .int .i64 C]) (by simp [results, Tryd.results8, go_sem, hc, z7_eq]) rfl ?_
        exact ppr_no (K2.out.2.grown hg5 K2.out.2.size (fun k e => by have := Option.some.inj e; omega)) hp
def par (l : List UInt8) : Ex × Int × Int :=
  if 2000 < l.length then (nd 0 [], 0, 2)
  else match parse l with
    | .error s => (nd 0 [], (l.length : Int) - s.length, 4)
    | .ok x => if check x = 0 then (x, 0, 0) else (nd 0 [], 0, check x)
theorem par_pread (l : List UInt8) : pread l = par l := by
  unfold pread par
  split
  · rfl
  · cases parse l with
    | error s => rfl
    | ok x =>
      by_cases h : check x = 0
      · simp only [h, ne_eq, not_true_eq_false, ↓reduceIte]
      · simp only [h, ne_eq, not_false_eq_true, ↓reduceIte]
/-- Three results, the first of them an expression. -/
def Says3 (N : Nat) (w' : World) (R : Ex × Int × Int) (e : Ending) : Prop := ∃ y : Ex, e = .returned (.tuple #[.agg #[.int .i64 y.k, .int .u64 (wd y.S 0), .int .u64 (wd y.S 1), .int .u64 (wd y.S 2), .int .u64 (wd y.S 3), .string y.t, .slice y.a y.kids.length y.c], .int .i64 R.2.1, .int .i64 R.2.2]) ∧ y.er = R.1 ∧ y.Ou (N ≤ ·) w'
theorem parse_say (T : ByteArray) (w : World) (hT : T.size ≤ 140737488355328) :
    Calls Tryd.prog 8 #[.string T] w fun e w' => Says3 w.heap.size w' (par T.data.toList) e ∧ Below w.heap.size w w' := by
  refine (parse_ou T w hT).mono ?_
  rintro e w' ⟨hb, y, h1, h2, h3⟩
  rw [par_pread] at h1 h2
  exact ⟨⟨y, h1, h2, h3⟩, hb⟩
end Go.Proofs.YtbeohmcmphebhaaDoor
