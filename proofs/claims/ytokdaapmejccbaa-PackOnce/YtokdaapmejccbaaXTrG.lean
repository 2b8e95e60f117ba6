import Derived.Test.YtokdaapmejccbaaXTrE
namespace Go.Proofs.Ytokdaapmejccbaa
open Go.RowKit
set_option linter.unusedVariables false
set_option linter.unusedSimpArgs false
theorem look9n (p : Nat) : lookE 9 p none = some p := rfl
theorem look9s (p q : Nat) : lookE 9 p (some q) = some q := rfl
theorem look10n (p : Nat) : lookE 10 p none = none := rfl
theorem look10s (p q : Nat) : lookE 10 p (some q) = some p := rfl
theorem look11n (p : Nat) : lookE 11 p none = some p := rfl
theorem look11s (p q : Nat) : lookE 11 p (some q) = none := rfl
section
variable {σ : Type} {T : ByteArray} {tb tO N : Nat} {rv tv : Value} {J : σ → World → Prop} {X : World → Nat → Prop}
set_option maxRecDepth 20000 in
set_option maxHeartbeats 4000000 in
theorem wk_thrown (E : Envx σ T tb tO N rv tv J X) (k : Int) (p : Nat) (x : σ) (w : World) (nb no : Nat) (hJ : J x w)
    (hcall : ∀ W, Below N w W → J x W → Calls Try.prog 74 #[.pointer (some ⟨tb, tO, none⟩), .pointer (some ⟨nb, no, none⟩), .int .i64 (p : Int)] W (TryR J X p none W)) :
    Calls Try.prog 133 #[.pointer (some ⟨tb, tO, none⟩), .int .i64 k, .pointer (some ⟨nb, no, none⟩), .int .i64 (p : Int)] w (TryR J X p none w) := by
  have HM : Hid (MO N J X w w.heap.size x _ _) := MO.new E hJ #[.bool false, .int .i64 0]
  have hL := HM.out.low E hJ
  have hcl := hcall _ hL HM.out.m.j
  clear hcall hJ
  unfold TryR thrownV at hcl ⊢
  simp only at hcl ⊢
  go_enter Try.func133, Try.ntmps133
  go_wp2_with (go_at_call 74; refine hcl.mono ?_; rintro e1 W1 ⟨rfl, hk1, hj1⟩)
  exact ⟨rfl, rfl, HM.out.m.kp.trans hk1, hj1⟩
set_option maxRecDepth 20000 in
set_option maxHeartbeats 4000000 in
theorem wk_7 (E : Envx σ T tb tO N rv tv J X) (p : Nat) (x : σ) (o : Ot) (z : σ) (r : Option (Ot × σ)) (w : World) (nb no : Nat) (hJ : J x w)
    (hcall : ∀ W, Below N w W → J x W → Calls Try.prog 74 #[.pointer (some ⟨tb, tO, none⟩), .pointer (some ⟨nb, no, none⟩), .int .i64 (p : Int)] W (TryR J X p (some (o, z)) W))
    (hgo : ∀ W, Below N w W → J z W → Calls Try.prog 147 #[.pointer (some ⟨tb, tO, none⟩), .pointer (some ⟨nb, no, none⟩), .int .i64 (p : Int), oval p o] W (TryR J X p r W)) :
    Calls Try.prog 133 #[.pointer (some ⟨tb, tO, none⟩), .int .i64 7, .pointer (some ⟨nb, no, none⟩), .int .i64 (p : Int)] w (TryR J X p r w) := by
  have HM : Hid (MO N J X w w.heap.size x _ _) := MO.new E hJ #[.bool false, .int .i64 0]
  have hL := HM.out.low E hJ
  have hcl := hcall _ hL HM.out.m.j
  have HL : Hid (∀ W1, Kpx X (w.alloc (.cells #[.bool false, .int .i64 0] 29)) W1 → Below N w (W1.alloc (.cells (ocells p o) 29))) := fun W1 hk => (hL.trans (hk.low E HM.out.m.j)).alloc (Nat.le_trans HM.out.n (Nat.le_trans HM.out.m.kp.size hk.size)) _
  have hg := hgo
  clear hcall hJ hgo hL
  unfold TryR at hcl
  simp only at hcl
  unfold oval at hcl hg
  obtain ⟨z0, n0, hzn⟩ := oc_form p o
  rw [hzn] at hcl hg HL
  cases r with
  | none =>
    unfold TryR thrownV at hg ⊢
    simp only at hg ⊢
    go_enter Try.func133, Try.ntmps133
    go_wp2_with (first
      | (go_at_call 74; refine hcl.mono ?_; rintro e1 W1 ⟨rfl, hk1, hj1⟩; have HM0 : Hid _ := (HM.out.call hk1 hj1).alloc E (.cells #[.bool z0, .int .i64 n0] 29); have hg1 := hg _ (HL.out W1 hk1) HM0.out.m.j; clear hk1 hj1 hg)
      | (go_at_call 147; refine hg1.mono ?_; rintro e1 W2 ⟨rfl, hk2, hj2⟩))
    exact ⟨rfl, rfl, HM0.out.m.kp.trans hk2, hj2⟩
  | some r =>
    obtain ⟨o3, y⟩ := r
    unfold TryR at hg ⊢
    simp only at hg ⊢
    unfold oval at hg ⊢
    obtain ⟨z3, n3, hzn3⟩ := oc_form p o3
    rw [hzn3] at hg ⊢
    go_enter Try.func133, Try.ntmps133
    go_wp2_with (first
      | (go_at_call 74; refine hcl.mono ?_; rintro e1 W1 ⟨rfl, hk1, hj1⟩; have HM0 : Hid _ := (HM.out.call hk1 hj1).alloc E (.cells #[.bool z0, .int .i64 n0] 29); have hg1 := hg _ (HL.out W1 hk1) HM0.out.m.j; clear hk1 hj1 hg)
      | (go_at_call 147; refine hg1.mono ?_; rintro e1 W2 ⟨rfl, hk2, hj2⟩; have HM1 : Hid _ := HM0.out.call hk2 hj2; clear hk2 hj2)
      | (refine wpList_store_box rfl 29 _ _ rfl w.heap.size _ rfl rfl _ HM1.out.o.box Try.info29 rfl (by simp [Value.oneCell']) ?_; intro w5 hx5 hg5; have hc := hx5.cell; have HM5 : Hid _ := HM1.out.store E hx5 hg5))
    exact bodyPost_ret (by simp [results, Try.results133, go_sem, hc]) rfl ⟨rfl, HM5.out.m.kp, HM5.out.m.j⟩
set_option maxRecDepth 20000 in
set_option maxHeartbeats 4000000 in
theorem wk_8s (E : Envx σ T tb tO N rv tv J X) (p : Nat) (x : σ) (q : Nat) (z : σ) (r : Option (Ot × σ)) (w : World) (nb no : Nat) (hJ : J x w)
    (hcall : ∀ W, Below N w W → J x W → Calls Try.prog 74 #[.pointer (some ⟨tb, tO, none⟩), .pointer (some ⟨nb, no, none⟩), .int .i64 (p : Int)] W (TryR J X p (some ((some q), z)) W))
    (hgo : ∀ W, Below N w W → J z W → Calls Try.prog 147 #[.pointer (some ⟨tb, tO, none⟩), .pointer (some ⟨nb, no, none⟩), .int .i64 (p : Int), oval p (some q)] W (TryR J X p r W)) :
    Calls Try.prog 133 #[.pointer (some ⟨tb, tO, none⟩), .int .i64 8, .pointer (some ⟨nb, no, none⟩), .int .i64 (p : Int)] w (TryR J X p r w) := by
  have HM : Hid (MO N J X w w.heap.size x _ _) := MO.new E hJ #[.bool false, .int .i64 0]
  have hL := HM.out.low E hJ
  have hcl := hcall _ hL HM.out.m.j
  have HL : Hid (∀ W1, Kpx X (w.alloc (.cells #[.bool false, .int .i64 0] 29)) W1 → Below N w (W1.alloc (.cells (ocells p (some q)) 29))) := fun W1 hk => (hL.trans (hk.low E HM.out.m.j)).alloc (Nat.le_trans HM.out.n (Nat.le_trans HM.out.m.kp.size hk.size)) _
  have hg := hgo
  clear hcall hJ hgo hL
  unfold TryR at hcl
  simp only at hcl
  unfold oval at hcl hg
  obtain ⟨z0, n0, hzn, hz0⟩ : ∃ z n, ocells p (some q) = #[.bool z, .int .i64 n] ∧ z = true := ⟨true, _, rfl, rfl⟩
  subst hz0
  rw [hzn] at hcl hg HL
  cases r with
  | none =>
    unfold TryR thrownV at hg ⊢
    simp only at hg ⊢
    go_enter Try.func133, Try.ntmps133
    go_wp2_with (first
      | (go_at_call 74; refine hcl.mono ?_; rintro e1 W1 ⟨rfl, hk1, hj1⟩; have HM0 : Hid _ := (HM.out.call hk1 hj1).alloc E (.cells #[.bool true, .int .i64 n0] 29); have hg1 := hg _ (HL.out W1 hk1) HM0.out.m.j; clear hk1 hj1 hg)
      | (go_at_call 147; refine hg1.mono ?_; rintro e1 W2 ⟨rfl, hk2, hj2⟩))
    exact ⟨rfl, rfl, HM0.out.m.kp.trans hk2, hj2⟩
  | some r =>
    obtain ⟨o3, y⟩ := r
    unfold TryR at hg ⊢
    simp only at hg ⊢
    unfold oval at hg ⊢
    obtain ⟨z3, n3, hzn3⟩ := oc_form p o3
    rw [hzn3] at hg ⊢
    go_enter Try.func133, Try.ntmps133
    go_wp2_with (first
      | (go_at_call 74; refine hcl.mono ?_; rintro e1 W1 ⟨rfl, hk1, hj1⟩; have HM0 : Hid _ := (HM.out.call hk1 hj1).alloc E (.cells #[.bool true, .int .i64 n0] 29); have hg1 := hg _ (HL.out W1 hk1) HM0.out.m.j; clear hk1 hj1 hg)
      | (go_at_call 147; refine hg1.mono ?_; rintro e1 W2 ⟨rfl, hk2, hj2⟩; have HM1 : Hid _ := HM0.out.call hk2 hj2; clear hk2 hj2)
      | (refine wpList_store_box rfl 29 _ _ rfl w.heap.size _ rfl rfl _ HM1.out.o.box Try.info29 rfl (by simp [Value.oneCell']) ?_; intro w5 hx5 hg5; have hc := hx5.cell; have HM5 : Hid _ := HM1.out.store E hx5 hg5))
    exact bodyPost_ret (by simp [results, Try.results133, go_sem, hc]) rfl ⟨rfl, HM5.out.m.kp, HM5.out.m.j⟩
set_option maxRecDepth 20000 in
set_option maxHeartbeats 4000000 in
theorem wk_8n (E : Envx σ T tb tO N rv tv J X) (p : Nat) (x z : σ) (w : World) (nb no : Nat) (hJ : J x w)
    (hcall : ∀ W, Below N w W → J x W → Calls Try.prog 74 #[.pointer (some ⟨tb, tO, none⟩), .pointer (some ⟨nb, no, none⟩), .int .i64 (p : Int)] W (TryR J X p (some (none, z)) W)) :
    Calls Try.prog 133 #[.pointer (some ⟨tb, tO, none⟩), .int .i64 8, .pointer (some ⟨nb, no, none⟩), .int .i64 (p : Int)] w (TryR J X p (some (none, z)) w) := by
  have HM : Hid (MO N J X w w.heap.size x _ _) := MO.new E hJ #[.bool false, .int .i64 0]
  have hL := HM.out.low E hJ
  have hcl := hcall _ hL HM.out.m.j
  have hf := fun W => failed_any W
  clear hcall hJ hL
  unfold TryR at hcl ⊢
  simp only [oval_none] at hcl ⊢
  go_enter Try.func133, Try.ntmps133
  go_wp2_with (first
    | (go_at_call 74; refine hcl.mono ?_; rintro e1 W1 ⟨rfl, hk1, hj1⟩; have HM0 : Hid _ := (HM.out.call hk1 hj1).alloc E (.cells #[.bool false, .int .i64 0] 29); clear hk1 hj1)
    | (go_at_call 146; refine (hf _).mono ?_; rintro e1 W2 ⟨rfl, hb2⟩; have HM1 : Hid _ := HM0.out.below E hb2; clear hb2)
    | (refine wpList_store_box rfl 29 _ _ rfl w.heap.size _ rfl rfl _ HM1.out.o.box Try.info29 rfl (by simp [Value.oneCell']) ?_; intro w5 hx5 hg5; have hc := hx5.cell; have HM5 : Hid _ := HM1.out.store E hx5 hg5))
  exact bodyPost_ret (by simp [results, Try.results133, go_sem, hc]) rfl ⟨rfl, HM5.out.m.kp, HM5.out.m.j⟩
set_option maxRecDepth 20000 in
set_option maxHeartbeats 4000000 in
theorem wk_9 (E : Envx σ T tb tO N rv tv J X) (p : Nat) (x z : σ) (o : Ot) (w : World) (nb no : Nat) (hJ : J x w)
    (hcall : ∀ W, Below N w W → J x W → Calls Try.prog 74 #[.pointer (some ⟨tb, tO, none⟩), .pointer (some ⟨nb, no, none⟩), .int .i64 (p : Int)] W (TryR J X p (some (o, z)) W)) :
    Calls Try.prog 133 #[.pointer (some ⟨tb, tO, none⟩), .int .i64 9, .pointer (some ⟨nb, no, none⟩), .int .i64 (p : Int)] w (TryR J X p (some (lookE 9 p o, z)) w) := by
  have HM : Hid (MO N J X w w.heap.size x _ _) := MO.new E hJ #[.bool false, .int .i64 0]
  have hL := HM.out.low E hJ
  have hcl := hcall _ hL HM.out.m.j
  have ht := fun n W => took_any n W
  clear hcall hJ hL
  cases o with
  | none =>
    unfold TryR at hcl ⊢
    simp only [oval_none, look9n, oval_same] at hcl ⊢
    go_enter Try.func133, Try.ntmps133
    go_wp2_with (first
      | (go_at_call 74; refine hcl.mono ?_; rintro e1 W1 ⟨rfl, hk1, hj1⟩; have HM1 : Hid _ := (HM.out.call hk1 hj1).alloc E (.cells #[.bool false, .int .i64 0] 29); clear hk1 hj1)
      | (go_at_call 128; refine (ht _ _).mono ?_; rintro e1 W2 ⟨rfl, hb2⟩; have HM1 : Hid _ := HM1.out.below E hb2; clear hb2)
      | (refine wpList_store_box rfl 29 _ _ rfl w.heap.size _ rfl rfl _ HM1.out.o.box Try.info29 rfl (by simp [Value.oneCell']) ?_; intro w5 hx5 hg5; have hc := hx5.cell; have HM5 : Hid _ := HM1.out.store E hx5 hg5))
    exact bodyPost_ret (by simp [results, Try.results133, go_sem, hc]) rfl ⟨rfl, HM5.out.m.kp, HM5.out.m.j⟩
  | some q =>
    unfold TryR at hcl ⊢
    simp only [oval_some, look9s, oval_some] at hcl ⊢
    generalize hdq : (q : Int) - (p : Int) = dq at hcl ⊢
    go_enter Try.func133, Try.ntmps133
    go_wp2_with (first
      | (go_at_call 74; refine hcl.mono ?_; rintro e1 W1 ⟨rfl, hk1, hj1⟩; have HM1 : Hid _ := (HM.out.call hk1 hj1).alloc E (.cells #[.bool true, .int .i64 dq] 29); clear hk1 hj1)
      | (go_at_call 128; refine (ht _ _).mono ?_; rintro e1 W2 ⟨rfl, hb2⟩; have HM1 : Hid _ := HM1.out.below E hb2; clear hb2)
      | (refine wpList_store_box rfl 29 _ _ rfl w.heap.size _ rfl rfl _ HM1.out.o.box Try.info29 rfl (by simp [Value.oneCell']) ?_; intro w5 hx5 hg5; have hc := hx5.cell; have HM5 : Hid _ := HM1.out.store E hx5 hg5))
    exact bodyPost_ret (by simp [results, Try.results133, go_sem, hc]) rfl ⟨rfl, HM5.out.m.kp, HM5.out.m.j⟩
set_option maxRecDepth 20000 in
set_option maxHeartbeats 4000000 in
theorem wk_10 (E : Envx σ T tb tO N rv tv J X) (p : Nat) (x z : σ) (o : Ot) (w : World) (nb no : Nat) (hJ : J x w)
    (hcall : ∀ W, Below N w W → J x W → Calls Try.prog 74 #[.pointer (some ⟨tb, tO, none⟩), .pointer (some ⟨nb, no, none⟩), .int .i64 (p : Int)] W (TryR J X p (some (o, z)) W)) :
    Calls Try.prog 133 #[.pointer (some ⟨tb, tO, none⟩), .int .i64 10, .pointer (some ⟨nb, no, none⟩), .int .i64 (p : Int)] w (TryR J X p (some (lookE 10 p o, z)) w) := by
  have HM : Hid (MO N J X w w.heap.size x _ _) := MO.new E hJ #[.bool false, .int .i64 0]
  have hL := HM.out.low E hJ
  have hcl := hcall _ hL HM.out.m.j
  have ht := fun n W => took_any n W
  clear hcall hJ hL
  cases o with
  | none =>
    unfold TryR at hcl ⊢
    simp only [oval_none, look10n, oval_none] at hcl ⊢
    go_enter Try.func133, Try.ntmps133
    go_wp2_with (first
      | (go_at_call 74; refine hcl.mono ?_; rintro e1 W1 ⟨rfl, hk1, hj1⟩; have HM1 : Hid _ := (HM.out.call hk1 hj1).alloc E (.cells #[.bool false, .int .i64 0] 29); clear hk1 hj1)
      | (go_at_call 128; refine (ht _ _).mono ?_; rintro e1 W2 ⟨rfl, hb2⟩; have HM1 : Hid _ := HM1.out.below E hb2; clear hb2)
      | (refine wpList_store_box rfl 29 _ _ rfl w.heap.size _ rfl rfl _ HM1.out.o.box Try.info29 rfl (by simp [Value.oneCell']) ?_; intro w5 hx5 hg5; have hc := hx5.cell; have HM5 : Hid _ := HM1.out.store E hx5 hg5))
    exact bodyPost_ret (by simp [results, Try.results133, go_sem, hc]) rfl ⟨rfl, HM5.out.m.kp, HM5.out.m.j⟩
  | some q =>
    unfold TryR at hcl ⊢
    simp only [oval_some, look10s, oval_same] at hcl ⊢
    generalize hdq : (q : Int) - (p : Int) = dq at hcl ⊢
    go_enter Try.func133, Try.ntmps133
    go_wp2_with (first
      | (go_at_call 74; refine hcl.mono ?_; rintro e1 W1 ⟨rfl, hk1, hj1⟩; have HM1 : Hid _ := (HM.out.call hk1 hj1).alloc E (.cells #[.bool true, .int .i64 dq] 29); clear hk1 hj1)
      | (go_at_call 128; refine (ht _ _).mono ?_; rintro e1 W2 ⟨rfl, hb2⟩; have HM1 : Hid _ := HM1.out.below E hb2; clear hb2)
      | (refine wpList_store_box rfl 29 _ _ rfl w.heap.size _ rfl rfl _ HM1.out.o.box Try.info29 rfl (by simp [Value.oneCell']) ?_; intro w5 hx5 hg5; have hc := hx5.cell; have HM5 : Hid _ := HM1.out.store E hx5 hg5))
    exact bodyPost_ret (by simp [results, Try.results133, go_sem, hc]) rfl ⟨rfl, HM5.out.m.kp, HM5.out.m.j⟩
set_option maxRecDepth 20000 in
set_option maxHeartbeats 4000000 in
theorem wk_11 (E : Envx σ T tb tO N rv tv J X) (p : Nat) (x z : σ) (o : Ot) (w : World) (nb no : Nat) (hJ : J x w)
    (hcall : ∀ W, Below N w W → J x W → Calls Try.prog 74 #[.pointer (some ⟨tb, tO, none⟩), .pointer (some ⟨nb, no, none⟩), .int .i64 (p : Int)] W (TryR J X p (some (o, z)) W)) :
    Calls Try.prog 133 #[.pointer (some ⟨tb, tO, none⟩), .int .i64 11, .pointer (some ⟨nb, no, none⟩), .int .i64 (p : Int)] w (TryR J X p (some (lookE 11 p o, z)) w) := by
  have HM : Hid (MO N J X w w.heap.size x _ _) := MO.new E hJ #[.bool false, .int .i64 0]
  have hL := HM.out.low E hJ
  have hcl := hcall _ hL HM.out.m.j
  have ht := fun n W => took_any n W
  clear hcall hJ hL
  cases o with
  | none =>
    unfold TryR at hcl ⊢
    simp only [oval_none, look11n, oval_same] at hcl ⊢
    go_enter Try.func133, Try.ntmps133
    go_wp2_with (first
      | (go_at_call 74; refine hcl.mono ?_; rintro e1 W1 ⟨rfl, hk1, hj1⟩; have HM1 : Hid _ := (HM.out.call hk1 hj1).alloc E (.cells #[.bool false, .int .i64 0] 29); clear hk1 hj1)
      | (go_at_call 128; refine (ht _ _).mono ?_; rintro e1 W2 ⟨rfl, hb2⟩; have HM1 : Hid _ := HM1.out.below E hb2; clear hb2)
      | (refine wpList_store_box rfl 29 _ _ rfl w.heap.size _ rfl rfl _ HM1.out.o.box Try.info29 rfl (by simp [Value.oneCell']) ?_; intro w5 hx5 hg5; have hc := hx5.cell; have HM5 : Hid _ := HM1.out.store E hx5 hg5))
    exact bodyPost_ret (by simp [results, Try.results133, go_sem, hc]) rfl ⟨rfl, HM5.out.m.kp, HM5.out.m.j⟩
  | some q =>
    unfold TryR at hcl ⊢
    simp only [oval_some, look11s, oval_none] at hcl ⊢
    generalize hdq : (q : Int) - (p : Int) = dq at hcl ⊢
    go_enter Try.func133, Try.ntmps133
    go_wp2_with (first
      | (go_at_call 74; refine hcl.mono ?_; rintro e1 W1 ⟨rfl, hk1, hj1⟩; have HM1 : Hid _ := (HM.out.call hk1 hj1).alloc E (.cells #[.bool true, .int .i64 dq] 29); clear hk1 hj1)
      | (go_at_call 128; refine (ht _ _).mono ?_; rintro e1 W2 ⟨rfl, hb2⟩; have HM1 : Hid _ := HM1.out.below E hb2; clear hb2)
      | (refine wpList_store_box rfl 29 _ _ rfl w.heap.size _ rfl rfl _ HM1.out.o.box Try.info29 rfl (by simp [Value.oneCell']) ?_; intro w5 hx5 hg5; have hc := hx5.cell; have HM5 : Hid _ := HM1.out.store E hx5 hg5))
    exact bodyPost_ret (by simp [results, Try.results133, go_sem, hc]) rfl ⟨rfl, HM5.out.m.kp, HM5.out.m.j⟩
end
end Go.Proofs.Ytokdaapmejccbaa
namespace Go.Proofs.Ytokdaapmejccbaa
open Go.RowKit
set_option linter.unusedVariables false
section
variable {σ : Type} {g : Gr} {T : ByteArray} {I : σ → Prop}
/-! What comes ends in the text. -/
theorem leafE_bnd (s : List UInt8) (e : Ex) (p : Nat) (hp : p ≤ s.length) : ∀ q, leafE s e p = some q → p ≤ q ∧ q ≤ s.length := fun q h => by
  unfold leafE at h
  by_cases h1 : e.k = 1
  · rw [if_pos h1] at h; cases h; exact ⟨Nat.le_refl _, hp⟩
  rw [if_neg h1] at h
  by_cases h2 : e.k = 2
  · rw [if_pos h2] at h
    cases hc : s[p]? with
    | none => rw [hc] at h; cases h
    | some c =>
      rw [hc] at h
      have hlt := (List.getElem?_eq_some_iff.1 hc).1
      simp only at h
      split at h
      · cases h; omega
      · cases h
  · rw [if_neg h2] at h
    split at h
    · rename_i hm
      cases h
      have hl := congrArg List.length hm
      rw [List.length_take, List.length_drop] at hl
      have hts : e.t.data.toList.length = e.t.size := rfl
      omega
    · cases h
theorem lookE_bnd (k : Int) (p len : Nat) (o : Ot) (hp : p ≤ len) (ho : ∀ q, o = some q → p ≤ q ∧ q ≤ len) : ∀ q, lookE k p o = some q → p ≤ q ∧ q ≤ len := fun q h => by
  unfold lookE at h
  split at h
  · cases o with
    | none => cases h; exact ⟨Nat.le_refl _, hp⟩
    | some t => cases h; exact ho _ rfl
  split at h
  · cases o with
    | none => cases h
    | some t => cases h; exact ⟨Nat.le_refl _, hp⟩
  · cases o with
    | none => cases h; exact ⟨Nat.le_refl _, hp⟩
    | some t => cases h
variable {F : Ex → Nat → σ → Rg σ} {len : Nat}
theorem seqG_bnd (hB : Bnd g len I F) : ∀ (l : List Ex) (p : Nat) (x : σ) (o : Ot) (y : σ), (∀ e ∈ l, e.Ok (IsRule g)) → p ≤ len → I x → seqG F l p x = some (some (o, y)) → I y ∧ ∀ q, o = some q → p ≤ q ∧ q ≤ len
  | [], p, x, o, y, _, hp, hx, h => by
    rw [seqG] at h
    cases h
    exact ⟨hx, fun q hq => by cases hq; exact ⟨Nat.le_refl _, hp⟩⟩
  | e :: l, p, x, o, y, hl, hp, hx, h => by
    rw [seqG] at h
    match hF : F e p x with
    | none => rw [hF] at h; cases h
    | some none => rw [hF] at h; cases h
    | some (some (none, z)) =>
      rw [hF] at h
      cases h
      exact ⟨(hB e p x none y (hl e (List.mem_cons_self ..)) hp hx hF).1, fun q hq => by cases hq⟩
    | some (some (some q, z)) =>
      rw [hF] at h
      obtain ⟨h1, h2⟩ := hB e p x (some q) z (hl e (List.mem_cons_self ..)) hp hx hF
      obtain ⟨h3, h4⟩ := h2 q rfl
      obtain ⟨h5, h6⟩ := seqG_bnd hB l q z o y (fun a ha => hl a (List.mem_cons_of_mem _ ha)) h4 h1 h
      exact ⟨h5, fun t ht => by have := h6 t ht; omega⟩
theorem altG_bnd (hB : Bnd g len I F) : ∀ (l : List Ex) (p : Nat) (x : σ) (o : Ot) (y : σ), (∀ e ∈ l, e.Ok (IsRule g)) → p ≤ len → I x → altG F l p x = some (some (o, y)) → I y ∧ ∀ q, o = some q → p ≤ q ∧ q ≤ len
  | [], p, x, o, y, _, hp, hx, h => by
    rw [altG] at h
    cases h
    exact ⟨hx, fun q hq => by cases hq⟩
  | e :: l, p, x, o, y, hl, hp, hx, h => by
    rw [altG] at h
    match hF : F e p x with
    | none => rw [hF] at h; cases h
    | some none => rw [hF] at h; cases h
    | some (some (some q, z)) =>
      rw [hF] at h
      cases h
      exact hB e p x (some q) y (hl e (List.mem_cons_self ..)) hp hx hF
    | some (some (none, z)) =>
      rw [hF] at h
      exact altG_bnd hB l p z o y (fun a ha => hl a (List.mem_cons_of_mem _ ha)) hp (hB e p x none z (hl e (List.mem_cons_self ..)) hp hx hF).1 h
theorem starG_bnd (hB : Bnd g len I F) (e : Ex) (he : e.Ok (IsRule g)) : ∀ (m p : Nat) (x : σ) (o : Ot) (y : σ), p ≤ len → I x → starG F e m p x = some (some (o, y)) → I y ∧ ∀ q, o = some q → p ≤ q ∧ q ≤ len
  | 0, p, x, o, y, _, _, h => by cases h
  | m + 1, p, x, o, y, hp, hx, h => by
    rw [starG] at h
    match hF : F e p x with
    | none => rw [hF] at h; cases h
    | some none => rw [hF] at h; cases h
    | some (some (none, z)) =>
      rw [hF] at h
      cases h
      exact ⟨(hB e p x none y he hp hx hF).1, fun q hq => by cases hq; exact ⟨Nat.le_refl _, hp⟩⟩
    | some (some (some q, z)) =>
      rw [hF] at h
      obtain ⟨h1, h2⟩ := hB e p x (some q) z he hp hx hF
      obtain ⟨h3, h4⟩ := h2 q rfl
      obtain ⟨h5, h6⟩ := starG_bnd hB e he m q z o y h4 h1 h
      exact ⟨h5, fun t ht => by have := h6 t ht; omega⟩
/-- What calls of rules keep. -/
def BndC (g : Gr) (len : Nat) (I : σ → Prop) (R : ByteArray → Nat → σ → Rg σ) : Prop := ∀ (t : ByteArray) (p : Nat) (x : σ) (o : Ot) (y : σ), IsRule g t → p ≤ len → I x → R t p x = some (some (o, y)) → I y ∧ ∀ q, o = some q → p ≤ q ∧ q ≤ len
theorem comesG_bnd (s : List UInt8) {C : (Ex → Nat → σ → Rg σ) → ByteArray → Nat → σ → Rg σ} (hC : BndC g s.length I (C F)) (hB : Bnd g s.length I F) (f : Nat) : Bnd g s.length I (comesG C s F f) := fun e p x o y he hp hx h => by
  have ho' := (ok_eq _ e).1 he
  unfold comesG at h
  by_cases h1 : e.k = 1 ∨ e.k = 2 ∨ e.k = 3
  · rw [if_pos h1] at h
    simp only [Option.some.injEq, Prod.mk.injEq] at h
    obtain ⟨rfl, rfl⟩ := h
    exact ⟨hx, leafE_bnd s e p hp⟩
  rw [if_neg h1] at h
  by_cases h4 : e.k = 4
  · rw [if_pos h4] at h; exact hC e.t p x o y (ho'.2.1 h4) hp hx h
  rw [if_neg h4] at h
  have hks : ∀ a ∈ e.kids, a.Ok (IsRule g) := fun a ha => he.kid ha
  by_cases h5 : e.k = 5
  · rw [if_pos h5] at h; exact seqG_bnd hB e.kids p x o y hks hp hx h
  rw [if_neg h5] at h
  by_cases h6 : e.k = 6
  · rw [if_pos h6] at h; exact altG_bnd hB e.kids p x o y hks hp hx h
  rw [if_neg h6] at h
  cases hk : e.kids with
  | nil => rw [hk] at h; cases h
  | cons a l =>
    rw [hk] at h
    have ha := hks a (by rw [hk]; simp)
    simp only at h
    by_cases h7 : e.k = 7
    · rw [if_pos h7] at h; exact starG_bnd hB a ha f p x o y hp hx h
    rw [if_neg h7] at h
    match hF : F a p x with
    | none => rw [hF] at h; cases h
    | some none => rw [hF] at h; cases h
    | some (some (o1, z)) =>
      rw [hF] at h
      obtain ⟨k1, k2⟩ := hB a p x o1 z ha hp hx hF
      simp only at h
      by_cases h8 : e.k = 8
      · rw [if_pos h8] at h
        cases o1 with
        | none => cases h; exact ⟨k1, fun q hq => by cases hq⟩
        | some q =>
          obtain ⟨k3, k4⟩ := k2 q rfl
          obtain ⟨k5, k6⟩ := starG_bnd hB a ha f q z o y k4 k1 h
          exact ⟨k5, fun t ht => by have := k6 t ht; omega⟩
      · rw [if_neg h8] at h
        cases h
        exact ⟨k1, lookE_bnd e.k p s.length o1 hp k2⟩
/-- What telling keeps. -/
def BndT (I : σ → Prop) (Tl : Ex → Nat → Ot → σ → Option σ) : Prop := ∀ e p o x y, I x → Tl e p o x = some y → I y
theorem toldG_bnd {Tl : Ex → Nat → Ot → σ → Option σ} (hT : BndT I Tl) (e : Ex) (p : Nat) (r : Rg σ) (o : Ot) (y : σ) (h : toldG Tl e p r = some (some (o, y))) : ∃ z, r = some (some (o, z)) ∧ Tl e p o z = some y := by
  match r with
  | none => cases h
  | some none => cases h
  | some (some (o1, z)) =>
    simp only [toldG] at h
    cases hz : Tl e p o1 z with
    | none => rw [hz] at h; cases h
    | some v =>
      rw [hz] at h
      simp only [Option.some.injEq, Prod.mk.injEq] at h
      obtain ⟨rfl, rfl⟩ := h
      exact ⟨z, rfl, hz⟩
theorem tryG_bnd (s : List UInt8) {C : (Ex → Nat → σ → Rg σ) → ByteArray → Nat → σ → Rg σ} {Tl : Ex → Nat → Ot → σ → Option σ} (hC : ∀ F, Bnd g s.length I F → BndC g s.length I (C F)) (hT : BndT I Tl) : ∀ f, Bnd g s.length I (tryG C Tl s f)
  | 0, e, p, x, o, y, _, _, _, h => by cases h
  | f + 1, e, p, x, o, y, he, hp, hx, h => by
    have ih := tryG_bnd s hC hT f
    rw [tryG] at h
    obtain ⟨z, h1, h2⟩ := toldG_bnd hT e p _ o y h
    obtain ⟨h3, h4⟩ := comesG_bnd s (hC _ ih) ih f e p x o z he hp hx h1
    exact ⟨hT e p o z y h3 h2, h4⟩
end
/-! The whole of comesOf. -/
section
variable {σ : Type} {g : Gr} {T : ByteArray} {tb tO N : Nat} {rv tv : Value} {J : σ → World → Prop} {X : World → Nat → Prop} {I : σ → Prop} {F : Ex → Nat → σ → Rg σ}
/-- What a rule's call does. -/
def RuleC (g : Gr) (T : ByteArray) (N : Nat) (J : σ → World → Prop) (X : World → Nat → Prop) (I : σ → Prop) (R : ByteArray → Nat → σ → Rg σ) (rn : Nat) (rf rc : Array Value) : Prop :=
  ∀ (t : ByteArray) (p : Nat) (x : σ) (r : Option (Ot × σ)) (W : World), IsRule g t → p ≤ T.size → J x W → I x → R t p x = some r → Calls Try.prog rn (rf ++ (#[.string t, .int .i64 (p : Int)] ++ rc)) W (TryR J X p r W)
theorem comes_all (E : Envx σ T tb tO N rv tv J X) (hT : T.size ≤ 60) (rn : Nat) (rf rc : Array Value) (hrv : rv = .func (.func rn) rf rc) (hrun : ∀ (av : Array Value) (W : World), Sem.run Try.prog (callFunc rn av) W = .ok (.enter rn av) W)
    (hTry : TryC g T tb tO N J X I F 74) (hB : Bnd g T.size I F) {C : (Ex → Nat → σ → Rg σ) → ByteArray → Nat → σ → Rg σ} (hR : RuleC g T N J X I (C F) rn rf rc) (f : Nat) : TryC g T tb tO N J X I (comesG C T.data.toList F f) 104 := fun e p x r w nb no he hn hp hJ hI h => by
  have ho' := (ok_eq _ e).1 he
  unfold comesG at h
  by_cases h1 : e.k = 1 ∨ e.k = 2 ∨ e.k = 3
  · rw [if_pos h1] at h
    cases h
    rcases h1 with h1 | h1 | h1
    · exact comes_1 E hT e h1 p x w nb no hn hp hJ
    · exact comes_2 E hT e h1 p x w nb no hn hp hJ
    · exact comes_3 E hT e h1 p x w nb no hn hp hJ
  rw [if_neg h1] at h
  by_cases h4 : e.k = 4
  · rw [if_pos h4] at h
    exact comes_4 E hT e h4 rn rf rc hrv hrun p x r w nb no hn hp hJ fun W hb hj => hR e.t p x r W (ho'.2.1 h4) hp hj hI h
  rw [if_neg h4] at h
  by_cases h5 : e.k = 5
  · rw [if_pos h5] at h
    exact comes_5 E hT e h5 p x r w nb no hn hp hJ fun W hb hj => allOf_any E hT hTry hB e he p x r W (hn.inn.below hb) hp hj hI h
  rw [if_neg h5] at h
  by_cases h6 : e.k = 6
  · rw [if_pos h6] at h
    exact comes_6 E hT e h6 p x r w nb no hn hp hJ fun W hb hj => firstOf_any E hT hTry hB e he p x r W (hn.inn.below hb) hp hj hI h
  rw [if_neg h6] at h
  have hkk : 7 ≤ e.k ∧ e.k ≤ 11 := by rcases kind_of ho'.1 with h | h | h | h | ⟨h, -, -⟩ <;> omega
  cases hk : e.kids with
  | nil => rw [hk] at h; cases h
  | cons u l =>
    rw [hk] at h
    have hu : u ∈ e.kids := by rw [hk]; simp
    have hu0 : e.kids[0]? = some u := by rw [hk]; rfl
    have huo := he.kid hu
    obtain ⟨kb, ko, hka, hnk⟩ := Nd0.kid hn.inn hu0
    rw [Nat.zero_mul, Nat.add_zero] at hnk
    simp only at h
    refine comes_k E hT e hkk.1 kb ko hka (by rw [hk]; simp) p x r w nb no hn hp hJ fun W hb hj => ?_
    have htr : ∀ rr, F u p x = some rr → ∀ W2, Below N W W2 → J x W2 → Calls Try.prog 74 #[.pointer (some ⟨tb, tO, none⟩), .pointer (some ⟨kb, ko, none⟩), .int .i64 (p : Int)] W2 (TryR J X p rr W2) := fun rr hF W2 hb2 hj2 => hTry u p x rr W2 kb ko huo (hnk.below (hb.trans hb2)) hp hj2 hI hF
    by_cases h7 : e.k = 7
    · rw [if_pos h7] at h
      rw [h7]
      cases f with
      | zero => rw [starG] at h; cases h
      | succ m =>
        rw [starG_go] at h
        match hF : F u p x with
        | none => rw [hF] at h; cases h
        | some none =>
          rw [hF] at h
          cases h
          exact wk_thrown E 7 p x W kb ko hj (htr none hF)
        | some (some (o, z)) =>
          rw [hF] at h
          obtain ⟨k1, k2⟩ := hB u p x o z huo hp hI hF
          exact wk_7 E p x o z r W kb ko hj (htr _ hF) fun W2 hb2 hj2 => goOn_any E hT hTry hB u huo kb ko p m o z r W2 (hnk.below (hb.trans hb2)) hp k2 hj2 k1 h
    rw [if_neg h7] at h
    match hF : F u p x with
    | none => rw [hF] at h; cases h
    | some none =>
      rw [hF] at h
      cases h
      exact wk_thrown E e.k p x W kb ko hj (htr none hF)
    | some (some (o, z)) =>
      rw [hF] at h
      obtain ⟨k1, k2⟩ := hB u p x o z huo hp hI hF
      simp only at h
      by_cases h8 : e.k = 8
      · rw [if_pos h8] at h
        rw [h8]
        cases o with
        | none => cases h; exact wk_8n E p x z W kb ko hj (htr _ hF)
        | some q => exact wk_8s E p x q z r W kb ko hj (htr _ hF) fun W2 hb2 hj2 => goOn_any E hT hTry hB u huo kb ko p f (some q) z r W2 (hnk.below (hb.trans hb2)) hp k2 hj2 k1 h
      · rw [if_neg h8] at h
        cases h
        have hcase : e.k = 9 ∨ e.k = 10 ∨ e.k = 11 := by omega
        rcases hcase with h9 | h9 | h9
        · rw [h9]; exact wk_9 E p x z o W kb ko hj (htr _ hF)
        · rw [h9]; exact wk_10 E p x z o W kb ko hj (htr _ hF)
        · rw [h9]; exact wk_11 E p x z o W kb ko hj (htr _ hF)
end
end Go.Proofs.Ytokdaapmejccbaa
