import Derived.Test.YtokdaapmejccbaaXGrowB
import Derived.Test.YtokdaapmejccbaaXTrB
import Derived.Test.YtokdaapmejccbaaXSchA
import Derived.WalkKit
import Derived.Below
import Derived.Laws.Tables
import Derived.Laws.Rows
import Derived.Deep.QuietTactic
import Derived.Deep.LoopGhost
import Derived.BigQuiet
import Derived.BigRegion
namespace Go.Proofs.Ytokdaapmejccbaa
open Go.RowKit
set_option linter.unusedVariables false
set_option linter.unusedSimpArgs false
section
variable {σ : Type} {T : ByteArray} {tb tO N : Nat} {rv tv : Value} {J : σ → World → Prop} {X : World → Nat → Prop}
/-- In the middle of a trier's call, with the box of its result. -/
structure MO (N : Nat) (J : σ → World → Prop) (X : World → Nat → Prop) (w0 : World) (B : Nat) (x : σ) (cs : Array Value) (W : World) : Prop where
  m : Mdx N J X x w0 W
  o : Obx X w0 W B cs
  n : N ≤ w0.heap.size
theorem MO.new (E : Envx σ T tb tO N rv tv J X) {x : σ} {w : World} (h : J x w) (cs : Array Value) : MO N J X w w.heap.size x cs (w.alloc (.cells cs 29)) :=
  ⟨(Mdx.start h).alloc E _, Obx.new E (Mdx.start h) cs, E.lt h⟩
theorem MO.below (E : Envx σ T tb tO N rv tv J X) {x : σ} {w0 W W' : World} {B : Nat} {cs : Array Value} (h : MO N J X w0 B x cs W) (hb : Below W.heap.size W W') : MO N J X w0 B x cs W' := ⟨h.m.below E hb, h.o.below E h.m hb, h.n⟩
theorem MO.alloc (E : Envx σ T tb tO N rv tv J X) {x : σ} {w0 W : World} {B : Nat} {cs : Array Value} (h : MO N J X w0 B x cs W) (o : Obj) : MO N J X w0 B x cs (W.alloc o) := h.below E ((Below.refl _ _).alloc (Nat.le_refl _) o)
theorem MO.drewN (E : Envx σ T tb tO N rv tv J X) {x : σ} {w0 W : World} {B : Nat} {cs : Array Value} (h : MO N J X w0 B x cs W) (n : Nat) : MO N J X w0 B x cs (W.drewN n) := h.below E (below_drewN (Below.refl _ _) n)
theorem MO.drew (E : Envx σ T tb tO N rv tv J X) {x : σ} {w0 W : World} {B : Nat} {cs : Array Value} (h : MO N J X w0 B x cs W) : MO N J X w0 B x cs W.drew := h.below E (Below.refl _ _).drew
theorem MO.call {x y : σ} {w0 W W' : World} {B : Nat} {cs : Array Value} (h : MO N J X w0 B x cs W) (hk : Kpx X W W') (hj : J y W') : MO N J X w0 B y cs W' := ⟨h.m.call hj hk, h.o.call hk, h.n⟩
theorem MO.store (E : Envx σ T tb tO N rv tv J X) {x : σ} {w0 W W' : World} {B : Nat} {cs cs' : Array Value} (h : MO N J X w0 B x cs W) (hb : BoxN W' B 29 cs') (hg : W.grownBy W' (some B)) : MO N J X w0 B x cs' W' :=
  ⟨(h.m.store E h.n h.o hb hg).1, (h.m.store E h.n h.o hb hg).2, h.n⟩
theorem MO.low (E : Envx σ T tb tO N rv tv J X) {x0 x : σ} {w0 W : World} {B : Nat} {cs : Array Value} (hj : J x0 w0) (h : MO N J X w0 B x cs W) : Below N w0 W := h.m.kp.low E hj
theorem MO.c0 (E : Envx σ T tb tO N rv tv J X) {x : σ} {w0 W : World} {B : Nat} {cs : Array Value} (h : MO N J X w0 B x cs W) : W.cell? ⟨tb, tO, none⟩ = some (.string T) := E.c0 h.m.j
theorem tb_lt (E : Envx σ T tb tO N rv tv J X) {x : σ} {W : World} (h : J x W) : tb < W.heap.size := World.block_lt_of_cell? W ⟨tb, tO, none⟩ (E.c0 h)
end
theorem oval_none (p : Nat) : oval p none = .agg #[.bool false, .int .i64 0] := rfl
theorem oval_same (p : Nat) : oval p (some p) = .agg #[.bool true, .int .i64 0] := by
  show Value.agg #[.bool true, .int .i64 ((p : Int) - p)] = _
  rw [Int.sub_self]
theorem oval_some (p q : Nat) : oval p (some q) = .agg #[.bool true, .int .i64 ((q : Int) - p)] := rfl
theorem oval_add (p n : Nat) : oval p (some (p + n)) = .agg #[.bool true, .int .i64 (n : Int)] := by
  show Value.agg #[.bool true, .int .i64 (((p + n : Nat) : Int) - p)] = _
  rw [show ((p + n : Nat) : Int) - p = n from by omega]
theorem two_cells : ∀ (cs : Array Value), cs.size = 2 → ∃ a b, cs = #[a, b]
  | ⟨[a, b]⟩, _ => ⟨a, b, rfl⟩
/-- The cells of an expression, each by itself. -/
structure C7 (e : Ex) (nb no : Nat) (W : World) : Prop where
  c0 : W.cell? ⟨nb, no, none⟩ = some (.int .i64 e.k)
  c1 : W.cell? ⟨nb, no + 1, none⟩ = some (.int .u64 (wd e.S 0))
  c2 : W.cell? ⟨nb, no + 1 + 1, none⟩ = some (.int .u64 (wd e.S 1))
  c3 : W.cell? ⟨nb, no + 1 + 2, none⟩ = some (.int .u64 (wd e.S 2))
  c4 : W.cell? ⟨nb, no + 1 + 3, none⟩ = some (.int .u64 (wd e.S 3))
  c5 : W.cell? ⟨nb, no + 5, none⟩ = some (.string e.t)
  c6 : W.cell? ⟨nb, no + 6, none⟩ = some (.slice e.a e.kids.length e.c)
theorem Nd0.c7 {N : Nat} {W : World} {e : Ex} {nb no : Nat} (h : Nd0 N W e nb no) : C7 e nb no W :=
  ⟨h.c 0 (by omega), h.c 1 (by omega), h.c 2 (by omega), h.c 3 (by omega), h.c 4 (by omega), h.c 5 (by omega), h.c 6 (by omega)⟩
theorem C7.low {e : Ex} {nb no N : Nat} {W W' : World} (h : C7 e nb no W) (hb : Below N W W') (hl : nb < N) : C7 e nb no W' :=
  ⟨(hb.cell (p := ⟨nb, _, none⟩) hl).trans h.c0, (hb.cell (p := ⟨nb, _, none⟩) hl).trans h.c1, (hb.cell (p := ⟨nb, _, none⟩) hl).trans h.c2, (hb.cell (p := ⟨nb, _, none⟩) hl).trans h.c3, (hb.cell (p := ⟨nb, _, none⟩) hl).trans h.c4, (hb.cell (p := ⟨nb, _, none⟩) hl).trans h.c5, (hb.cell (p := ⟨nb, _, none⟩) hl).trans h.c6⟩
/-! comesOf -/
section
variable {σ : Type} {T : ByteArray} {tb tO N : Nat} {rv tv : Value} {J : σ → World → Prop} {X : World → Nat → Prop}
set_option maxRecDepth 20000 in
set_option maxHeartbeats 4000000 in
theorem comes_1 (E : Envx σ T tb tO N rv tv J X) (hT : T.size ≤ 60) (e : Ex) (hk : e.k = 1) (p : Nat) (x : σ) (w : World) (nb no : Nat) (hn : Nd0 N w e nb no) (hp : p ≤ T.size) (hJ : J x w) :
    Calls Try.prog 104 #[.pointer (some ⟨tb, tO, none⟩), .pointer (some ⟨nb, no, none⟩), .int .i64 (p : Int)] w (TryR J X p (some (leafE T.data.toList e p, x)) w) := by
  have HM : Hid (MO N J X w w.heap.size x _ _) := MO.new E hJ #[.bool false, .int .i64 0]
  have hC := hn.c7.low (HM.out.low E hJ) hn.lt
  have hl : leafE T.data.toList e p = some p := by unfold leafE; rw [if_pos hk]
  rw [hl]
  have ht := fun W => took_any 0 W
  obtain ⟨c0, c1, c2, c3, c4, c5, c6⟩ := hC
  rw [hk] at c0
  unfold TryR
  simp only [oval_same]
  clear hl hn
  go_enter Try.func104, Try.ntmps104
  go_wp2_with (first
    | (go_at_call 128; refine (ht _).mono ?_; rintro e1 W1 ⟨rfl, hb1⟩; have HM1 : Hid _ := HM.out.below E hb1; clear hb1)
    | (refine wpList_store_box rfl 29 _ _ rfl w.heap.size _ rfl rfl _ HM1.out.o.box Try.info29 rfl (by simp [Value.oneCell']) ?_; intro w5 hx5 hg5; have hc := hx5.cell; have HM5 : Hid _ := HM1.out.store E hx5 hg5))
  exact bodyPost_ret (by simp [results, Try.results104, go_sem, hc]) rfl ⟨rfl, HM5.out.m.kp, HM5.out.m.j⟩
set_option maxRecDepth 20000 in
set_option maxHeartbeats 4000000 in
theorem comes_2 (E : Envx σ T tb tO N rv tv J X) (hT : T.size ≤ 60) (e : Ex) (hk : e.k = 2) (p : Nat) (x : σ) (w : World) (nb no : Nat) (hn : Nd0 N w e nb no) (hp : p ≤ T.size) (hJ : J x w) :
    Calls Try.prog 104 #[.pointer (some ⟨tb, tO, none⟩), .pointer (some ⟨nb, no, none⟩), .int .i64 (p : Int)] w (TryR J X p (some (leafE T.data.toList e p, x)) w) := by
  have HM : Hid (MO N J X w w.heap.size x _ _) := MO.new E hJ #[.bool false, .int .i64 0]
  have hC := hn.c7.low (HM.out.low E hJ) hn.lt
  have hone : ∀ W, tb < W.heap.size → W.cell? ⟨tb, tO, none⟩ = some (.string T) → Calls Try.prog 129 #[.pointer (some ⟨tb, tO, none⟩), .agg #[.int .u64 (wd e.S 0), .int .u64 (wd e.S 1), .int .u64 (wd e.S 2), .int .u64 (wd e.S 3)], .int .i64 (p : Int)] W fun r W' => r = .returned (oval p (leafE T.data.toList e p)) ∧ Below W.heap.size W W' := fun W h1 h2 => by
    unfold leafE
    rw [if_neg (by omega), if_pos hk]
    by_cases hpe : p = T.size
    · subst hpe
      have h3 : T.data.toList[T.size]? = none := List.getElem?_eq_none (Nat.le_refl _)
      rw [h3]
      exact oneByte_end e.S T tb tO W h2 hT h1
    · have hpl : p < T.size := by omega
      rw [getu8 T p hpl]
      have := oneByte_at e.S T tb tO p W h2 hT h1 hpl T[p] rfl
      simp only
      by_cases hb : e.S.getLsbD T[p].toNat = true
      · rw [if_pos hb] at this ⊢
        rw [oval_add p 1]
        exact this
      · rw [if_neg hb] at this ⊢
        exact this
  obtain ⟨c0, c1, c2, c3, c4, c5, c6⟩ := hC
  rw [hk] at c0
  have hO := hone _ (Nat.lt_of_lt_of_le (tb_lt E hJ) HM.out.m.kp.size) (HM.out.c0 E)
  unfold TryR
  simp only
  unfold oval at hO ⊢
  have hsz : (ocells p (leafE T.data.toList e p)).size = 2 ∧ (ocells p (leafE T.data.toList e p)).all (·.oneCell') = true := by cases leafE T.data.toList e p <;> exact ⟨rfl, by simp [ocells, Value.oneCell']⟩
  generalize ocells p (leafE T.data.toList e p) = cs at *
  obtain ⟨a, b, rfl⟩ := two_cells cs hsz.1
  clear hone hn
  go_enter Try.func104, Try.ntmps104
  go_wp2_with (first
    | (go_at_call 129; refine hO.mono ?_; rintro e1 W1 ⟨rfl, hb1⟩; have HM1 : Hid _ := HM.out.below E hb1; clear hb1)
    | (refine wpList_store_box rfl 29 _ _ rfl w.heap.size _ rfl rfl _ HM1.out.o.box Try.info29 rfl hsz.2 ?_; intro w5 hx5 hg5; have hc := hx5.cell; have HM5 : Hid _ := HM1.out.store E hx5 hg5))
  exact bodyPost_ret (by simp [results, Try.results104, go_sem, hc]) rfl ⟨rfl, HM5.out.m.kp, HM5.out.m.j⟩
set_option maxRecDepth 20000 in
set_option maxHeartbeats 4000000 in
theorem comes_3 (E : Envx σ T tb tO N rv tv J X) (hT : T.size ≤ 60) (e : Ex) (hk : e.k = 3) (p : Nat) (x : σ) (w : World) (nb no : Nat) (hn : Nd0 N w e nb no) (hp : p ≤ T.size) (hJ : J x w) :
    Calls Try.prog 104 #[.pointer (some ⟨tb, tO, none⟩), .pointer (some ⟨nb, no, none⟩), .int .i64 (p : Int)] w (TryR J X p (some (leafE T.data.toList e p, x)) w) := by
  have HM : Hid (MO N J X w w.heap.size x _ _) := MO.new E hJ #[.bool false, .int .i64 0]
  have hC := hn.c7.low (HM.out.low E hJ) hn.lt
  have hone : ∀ W, tb < W.heap.size → W.cell? ⟨tb, tO, none⟩ = some (.string T) → Calls Try.prog 130 #[.pointer (some ⟨tb, tO, none⟩), .string e.t, .int .i64 (p : Int)] W fun r W' => r = .returned (oval p (leafE T.data.toList e p)) ∧ Below W.heap.size W W' := fun W h1 h2 => by
    unfold leafE
    rw [if_neg (by omega), if_neg (by omega)]
    have := literal_any T e.t tb tO p W h2 hT h1 hp
    rw [litB_iff T e.t p hp] at this
    by_cases hb : (T.data.toList.drop p).take e.t.size = e.t.data.toList
    · rw [if_pos (by simpa using hb)] at this
      rw [if_pos hb, oval_add]
      exact this
    · rw [if_neg (by simpa using hb)] at this
      rw [if_neg hb]
      exact this
  obtain ⟨c0, c1, c2, c3, c4, c5, c6⟩ := hC
  rw [hk] at c0
  have hO := hone _ (Nat.lt_of_lt_of_le (tb_lt E hJ) HM.out.m.kp.size) (HM.out.c0 E)
  unfold TryR
  simp only
  unfold oval at hO ⊢
  have hsz : (ocells p (leafE T.data.toList e p)).size = 2 ∧ (ocells p (leafE T.data.toList e p)).all (·.oneCell') = true := by cases leafE T.data.toList e p <;> exact ⟨rfl, by simp [ocells, Value.oneCell']⟩
  generalize ocells p (leafE T.data.toList e p) = cs at *
  obtain ⟨a, b, rfl⟩ := two_cells cs hsz.1
  clear hone hn
  go_enter Try.func104, Try.ntmps104
  go_wp2_with (first
    | (go_at_call 130; refine hO.mono ?_; rintro e1 W1 ⟨rfl, hb1⟩; have HM1 : Hid _ := HM.out.below E hb1; clear hb1)
    | (refine wpList_store_box rfl 29 _ _ rfl w.heap.size _ rfl rfl _ HM1.out.o.box Try.info29 rfl hsz.2 ?_; intro w5 hx5 hg5; have hc := hx5.cell; have HM5 : Hid _ := HM1.out.store E hx5 hg5))
  exact bodyPost_ret (by simp [results, Try.results104, go_sem, hc]) rfl ⟨rfl, HM5.out.m.kp, HM5.out.m.j⟩
set_option maxRecDepth 20000 in
set_option maxHeartbeats 4000000 in
theorem comes_5 (E : Envx σ T tb tO N rv tv J X) (hT : T.size ≤ 60) (e : Ex) (hk : e.k = 5) (p : Nat) (x : σ) (r : Option (Ot × σ)) (w : World) (nb no : Nat) (hn : Nd0 N w e nb no) (hp : p ≤ T.size) (hJ : J x w)
    (hcall : ∀ W, Below N w W → J x W → Calls Try.prog 131 #[.pointer (some ⟨tb, tO, none⟩), .slice e.a e.kids.length e.c, .int .i64 (p : Int)] W (TryR J X p r W)) :
    Calls Try.prog 104 #[.pointer (some ⟨tb, tO, none⟩), .pointer (some ⟨nb, no, none⟩), .int .i64 (p : Int)] w (TryR J X p r w) := by
  have HM : Hid (MO N J X w w.heap.size x _ _) := MO.new E hJ #[.bool false, .int .i64 0]
  have hL := HM.out.low E hJ
  have hC := hn.c7.low hL hn.lt
  have hcl := hcall _ hL HM.out.m.j
  obtain ⟨c0, c1, c2, c3, c4, c5, c6⟩ := hC
  rw [hk] at c0
  clear hcall hn hL
  cases r with
  | none =>
    unfold TryR thrownV at hcl ⊢
    simp only at hcl ⊢
    go_enter Try.func104, Try.ntmps104
    go_wp2_with (go_at_call 131; refine hcl.mono ?_; rintro e1 W1 ⟨rfl, hk1, hj1⟩)
    exact ⟨rfl, rfl, HM.out.m.kp.trans hk1, hj1⟩
  | some r =>
    obtain ⟨o, y⟩ := r
    unfold TryR at hcl ⊢
    simp only at hcl ⊢
    unfold oval at hcl ⊢
    have hsz : (ocells p o).size = 2 ∧ (ocells p o).all (·.oneCell') = true := by cases o <;> exact ⟨rfl, by simp [ocells, Value.oneCell']⟩
    generalize ocells p o = cs at *
    obtain ⟨a, b, rfl⟩ := two_cells cs hsz.1
    go_enter Try.func104, Try.ntmps104
    go_wp2_with (first
      | (go_at_call 131; refine hcl.mono ?_; rintro e1 W1 ⟨rfl, hk1, hj1⟩; have HM1 : Hid _ := HM.out.call hk1 hj1; clear hk1 hj1)
      | (refine wpList_store_box rfl 29 _ _ rfl w.heap.size _ rfl rfl _ HM1.out.o.box Try.info29 rfl hsz.2 ?_; intro w5 hx5 hg5; have hc := hx5.cell; have HM5 : Hid _ := HM1.out.store E hx5 hg5))
    exact bodyPost_ret (by simp [results, Try.results104, go_sem, hc]) rfl ⟨rfl, HM5.out.m.kp, HM5.out.m.j⟩
set_option maxRecDepth 20000 in
set_option maxHeartbeats 4000000 in
theorem comes_6 (E : Envx σ T tb tO N rv tv J X) (hT : T.size ≤ 60) (e : Ex) (hk : e.k = 6) (p : Nat) (x : σ) (r : Option (Ot × σ)) (w : World) (nb no : Nat) (hn : Nd0 N w e nb no) (hp : p ≤ T.size) (hJ : J x w)
    (hcall : ∀ W, Below N w W → J x W → Calls Try.prog 132 #[.pointer (some ⟨tb, tO, none⟩), .slice e.a e.kids.length e.c, .int .i64 (p : Int)] W (TryR J X p r W)) :
    Calls Try.prog 104 #[.pointer (some ⟨tb, tO, none⟩), .pointer (some ⟨nb, no, none⟩), .int .i64 (p : Int)] w (TryR J X p r w) := by
  have HM : Hid (MO N J X w w.heap.size x _ _) := MO.new E hJ #[.bool false, .int .i64 0]
  have hL := HM.out.low E hJ
  have hC := hn.c7.low hL hn.lt
  have hcl := hcall _ hL HM.out.m.j
  obtain ⟨c0, c1, c2, c3, c4, c5, c6⟩ := hC
  rw [hk] at c0
  clear hcall hn hL
  cases r with
  | none =>
    unfold TryR thrownV at hcl ⊢
    simp only at hcl ⊢
    go_enter Try.func104, Try.ntmps104
    go_wp2_with (go_at_call 132; refine hcl.mono ?_; rintro e1 W1 ⟨rfl, hk1, hj1⟩)
    exact ⟨rfl, rfl, HM.out.m.kp.trans hk1, hj1⟩
  | some r =>
    obtain ⟨o, y⟩ := r
    unfold TryR at hcl ⊢
    simp only at hcl ⊢
    unfold oval at hcl ⊢
    have hsz : (ocells p o).size = 2 ∧ (ocells p o).all (·.oneCell') = true := by cases o <;> exact ⟨rfl, by simp [ocells, Value.oneCell']⟩
    generalize ocells p o = cs at *
    obtain ⟨a, b, rfl⟩ := two_cells cs hsz.1
    go_enter Try.func104, Try.ntmps104
    go_wp2_with (first
      | (go_at_call 132; refine hcl.mono ?_; rintro e1 W1 ⟨rfl, hk1, hj1⟩; have HM1 : Hid _ := HM.out.call hk1 hj1; clear hk1 hj1)
      | (refine wpList_store_box rfl 29 _ _ rfl w.heap.size _ rfl rfl _ HM1.out.o.box Try.info29 rfl hsz.2 ?_; intro w5 hx5 hg5; have hc := hx5.cell; have HM5 : Hid _ := HM1.out.store E hx5 hg5))
    exact bodyPost_ret (by simp [results, Try.results104, go_sem, hc]) rfl ⟨rfl, HM5.out.m.kp, HM5.out.m.j⟩
set_option maxRecDepth 20000 in
set_option maxHeartbeats 4000000 in
theorem comes_k (E : Envx σ T tb tO N rv tv J X) (hT : T.size ≤ 60) (e : Ex) (hk : 7 ≤ e.k) (kb ko : Nat) (hka : e.a = some ⟨kb, ko, none⟩) (hkl : 1 ≤ e.kids.length) (p : Nat) (x : σ) (r : Option (Ot × σ)) (w : World) (nb no : Nat) (hn : Nd0 N w e nb no) (hp : p ≤ T.size) (hJ : J x w)
    (hcall : ∀ W, Below N w W → J x W → Calls Try.prog 133 #[.pointer (some ⟨tb, tO, none⟩), .int .i64 e.k, .pointer (some ⟨kb, ko, none⟩), .int .i64 (p : Int)] W (TryR J X p r W)) :
    Calls Try.prog 104 #[.pointer (some ⟨tb, tO, none⟩), .pointer (some ⟨nb, no, none⟩), .int .i64 (p : Int)] w (TryR J X p r w) := by
  have HM : Hid (MO N J X w w.heap.size x _ _) := MO.new E hJ #[.bool false, .int .i64 0]
  have hL := HM.out.low E hJ
  have hC := hn.c7.low hL hn.lt
  have hcl := hcall _ (hL.trans (Below.refl _ _).drew) (HM.out.drew E).m.j
  have g1 : (e.k == 1) = false := by rw [beq_eq_false_iff_ne]; omega
  have g2 : (e.k == 2) = false := by rw [beq_eq_false_iff_ne]; omega
  have g3 : (e.k == 3) = false := by rw [beq_eq_false_iff_ne]; omega
  have g4 : (e.k == 4) = false := by rw [beq_eq_false_iff_ne]; omega
  have g5 : (e.k == 5) = false := by rw [beq_eq_false_iff_ne]; omega
  have g6 : (e.k == 6) = false := by rw [beq_eq_false_iff_ne]; omega
  have i0 : 0 < e.kids.length := by omega
  have HS : Hid (C7 e nb no _ ∧ nb < N) := ⟨hC, hn.lt⟩
  have c0 := hC.c0
  have HD : Hid (MO N J X w w.heap.size x _ _) := HM.out.drew E
  have HKP : Hid (∀ W1, Kpx X (w.alloc (.cells #[.bool false, .int .i64 0] 29)).drew W1 → C7 e nb no W1 ∧ Kpx X w W1) := fun W1 hk1 => ⟨(hC.low (Below.refl _ _).drew hn.lt).low (hk1.low E (HM.out.drew E).m.j) hn.lt, (HM.out.drew E).m.kp.trans hk1⟩
  clear hcall hn hL hC hJ HM
  cases r with
  | none =>
    unfold TryR thrownV at hcl ⊢
    simp only at hcl ⊢
    go_enter Try.func104, Try.ntmps104
    go_wp2_with fail
    clear c0
    generalize w.alloc (.cells #[.bool false, .int .i64 0] 29) = w1 at *
    refine wp_region_sch (fun W => C7 e nb no W) 12 [(0,true),(1,true),(2,true),(3,true),(4,true),(5,true),(6,true),(7,true),(8,true),(9,true),(10,true),(11,false),(12,false)] _ (by kernel_rfl) (by kernel_rfl) (fun _ => by kernel_rfl) (by kernel_rfl) rfl (fun c a d v w h => by cases d <;> exact h) (HS.out.1.low (Below.refl N _).drew HS.out.2) ?_
    iterate 11
      refine wpSch_read rfl rfl ?_
      apply Exists.intro
      refine ⟨fun W hW => ?_, ?_⟩
      · obtain ⟨c0, c1, c2, c3, c4, c5, c6⟩ := hW
        go_simp
        with_reducible rfl
      simp only [Act.put, List.setIfInBounds_toArray, List.set_cons_zero, List.set_cons_succ]
    refine wpSch_list rfl rfl (fun K hK => ?_)
    go_wp2_with (go_at_call 133; refine hcl.mono ?_; rintro e1 W1 ⟨rfl, hk1, hj1⟩)
    exact ⟨rfl, rfl, (HKP.out _ hk1).2, hj1⟩
  | some r =>
    obtain ⟨o, y⟩ := r
    unfold TryR at hcl ⊢
    simp only at hcl ⊢
    unfold oval at hcl ⊢
    have hsz : (ocells p o).size = 2 ∧ (ocells p o).all (·.oneCell') = true := by cases o <;> exact ⟨rfl, by simp [ocells, Value.oneCell']⟩
    generalize ocells p o = cs at *
    obtain ⟨a, b, rfl⟩ := two_cells cs hsz.1
    go_enter Try.func104, Try.ntmps104
    go_wp2_with fail
    clear c0
    generalize w.alloc (.cells #[.bool false, .int .i64 0] 29) = w1 at *
    refine wp_region_sch (fun W => C7 e nb no W) 12 [(0,true),(1,true),(2,true),(3,true),(4,true),(5,true),(6,true),(7,true),(8,true),(9,true),(10,true),(11,false),(12,false)] _ (by kernel_rfl) (by kernel_rfl) (fun _ => by kernel_rfl) (by kernel_rfl) rfl (fun c a d v w h => by cases d <;> exact h) (HS.out.1.low (Below.refl N _).drew HS.out.2) ?_
    iterate 11
      refine wpSch_read rfl rfl ?_
      apply Exists.intro
      refine ⟨fun W hW => ?_, ?_⟩
      · obtain ⟨c0, c1, c2, c3, c4, c5, c6⟩ := hW
        go_simp
        with_reducible rfl
      simp only [Act.put, List.setIfInBounds_toArray, List.set_cons_zero, List.set_cons_succ]
    refine wpSch_list rfl rfl (fun K hK => ?_)
    go_wp2_with (go_at_call 133; refine hcl.mono ?_; rintro e1 W1 ⟨rfl, hk1, hj1⟩)
    refine hK _ _ (fun _ => (HKP.out _ hk1).1) ?_
    have HM1 : Hid _ := HD.out.call hk1 hj1
    clear hK K hk1 hj1
    refine wpSch_list rfl rfl (fun K hK => ?_)
    go_wp2_with (refine wpList_store_box rfl 29 _ _ rfl w.heap.size _ rfl rfl _ HM1.out.o.box Try.info29 rfl hsz.2 ?_; intro w5 hx5 hg5; have hc := hx5.cell; have HM5 : Hid _ := HM1.out.store E hx5 hg5)
    refine hK _ _ (fun h => absurd rfl h) ?_
    clear hK K
    unfold wpSch
    go_wp2_with fail
    exact bodyPost_ret (by simp [results, Try.results104, go_sem, hc]) rfl ⟨rfl, HM5.out.m.kp, HM5.out.m.j⟩
set_option maxRecDepth 20000 in
set_option maxHeartbeats 4000000 in
theorem comes_4 (E : Envx σ T tb tO N rv tv J X) (hT : T.size ≤ 60) (e : Ex) (hk : e.k = 4) (rn : Nat) (rf rc : Array Value) (hrv : rv = .func (.func rn) rf rc) (hrun : ∀ (av : Array Value) (W : World), Sem.run Try.prog (callFunc rn av) W = .ok (.enter rn av) W) (p : Nat) (x : σ) (r : Option (Ot × σ)) (w : World) (nb no : Nat) (hn : Nd0 N w e nb no) (hp : p ≤ T.size) (hJ : J x w)
    (hcall : ∀ W, Below N w W → J x W → Calls Try.prog rn (rf ++ (#[.string e.t, .int .i64 (p : Int)] ++ rc)) W (TryR J X p r W)) :
    Calls Try.prog 104 #[.pointer (some ⟨tb, tO, none⟩), .pointer (some ⟨nb, no, none⟩), .int .i64 (p : Int)] w (TryR J X p r w) := by
  have HM : Hid (MO N J X w w.heap.size x _ _) := MO.new E hJ #[.bool false, .int .i64 0]
  have hL := HM.out.low E hJ
  have hC := hn.c7.low hL hn.lt
  have hcl := hcall _ (hL.trans (Below.refl _ _).drew) (HM.out.drew E).m.j
  have hr1 := E.c1 HM.out.m.j
  rw [hrv] at hr1
  have HS : Hid ((C7 e nb no _ ∧ _) ∧ nb < N) := ⟨⟨hC, hr1⟩, hn.lt⟩
  have HD : Hid (MO N J X w w.heap.size x _ _) := HM.out.drew E
  have HKP : Hid (∀ W1, Kpx X (w.alloc (.cells #[.bool false, .int .i64 0] 29)).drew W1 → (∃ y, J y W1) → (C7 e nb no W1 ∧ W1.cell? ⟨tb, tO + 1, none⟩ = some (.func (.func rn) rf rc)) ∧ Kpx X w W1) := fun W1 hk1 ⟨y, hy⟩ => ⟨⟨(hC.low (Below.refl _ _).drew hn.lt).low (hk1.low E (HM.out.drew E).m.j) hn.lt, hrv ▸ E.c1 hy⟩, (HM.out.drew E).m.kp.trans hk1⟩
  have c0 := hC.c0
  rw [hk] at c0
  clear hcall hn hL hC hJ HM hr1
  clear hrv
  cases r with
  | none =>
    unfold TryR thrownV at hcl ⊢
    simp only at hcl ⊢
    go_enter Try.func104, Try.ntmps104
    go_wp2_with fail
    clear c0
    generalize w.alloc (.cells #[.bool false, .int .i64 0] 29) = w1 at *
    refine wp_region_sch (fun W => C7 e nb no W ∧ W.cell? ⟨tb, tO + 1, none⟩ = some (.func (.func rn) rf rc)) 10 [(0,true),(1,true),(2,true),(3,true),(4,true),(5,true),(6,true),(7,true),(8,true),(9,false),(10,false)] _ (by kernel_rfl) (by kernel_rfl) (fun _ => by kernel_rfl) (by kernel_rfl) rfl (fun c a d v w h => by cases d <;> exact h) ⟨HS.out.1.1.low (Below.refl N _).drew HS.out.2, HS.out.1.2⟩ ?_
    iterate 9
      refine wpSch_read rfl rfl ?_
      apply Exists.intro
      refine ⟨fun W hW => ?_, ?_⟩
      · obtain ⟨⟨c0, c1, c2, c3, c4, c5, c6⟩, r1⟩ := hW
        go_simp
        with_reducible rfl
      simp only [Act.put, List.setIfInBounds_toArray, List.set_cons_zero, List.set_cons_succ]
    refine wpSch_list rfl rfl (fun K hK => ?_)
    go_wp2_with fail
    refine hcl.mono ?_
    rintro e1 W1 ⟨rfl, hk1, hj1⟩
    exact ⟨rfl, rfl, (HKP.out _ hk1 hj1).2, hj1⟩
  | some r =>
    obtain ⟨o, y⟩ := r
    unfold TryR at hcl ⊢
    simp only at hcl ⊢
    unfold oval at hcl ⊢
    have hsz : (ocells p o).size = 2 ∧ (ocells p o).all (·.oneCell') = true := by cases o <;> exact ⟨rfl, by simp [ocells, Value.oneCell']⟩
    generalize ocells p o = cs at *
    obtain ⟨a, b, rfl⟩ := two_cells cs hsz.1
    go_enter Try.func104, Try.ntmps104
    go_wp2_with fail
    clear c0
    generalize w.alloc (.cells #[.bool false, .int .i64 0] 29) = w1 at *
    refine wp_region_sch (fun W => C7 e nb no W ∧ W.cell? ⟨tb, tO + 1, none⟩ = some (.func (.func rn) rf rc)) 10 [(0,true),(1,true),(2,true),(3,true),(4,true),(5,true),(6,true),(7,true),(8,true),(9,false),(10,false)] _ (by kernel_rfl) (by kernel_rfl) (fun _ => by kernel_rfl) (by kernel_rfl) rfl (fun c a d v w h => by cases d <;> exact h) ⟨HS.out.1.1.low (Below.refl N _).drew HS.out.2, HS.out.1.2⟩ ?_
    iterate 9
      refine wpSch_read rfl rfl ?_
      apply Exists.intro
      refine ⟨fun W hW => ?_, ?_⟩
      · obtain ⟨⟨c0, c1, c2, c3, c4, c5, c6⟩, r1⟩ := hW
        go_simp
        with_reducible rfl
      simp only [Act.put, List.setIfInBounds_toArray, List.set_cons_zero, List.set_cons_succ]
    refine wpSch_list rfl rfl (fun K hK => ?_)
    go_wp2_with fail
    refine hcl.mono ?_
    rintro e1 W1 ⟨rfl, hk1, hj1⟩
    go_wp2_with fail
    refine hK _ _ (fun _ => (HKP.out _ hk1 ⟨_, hj1⟩).1) ?_
    have HM1 : Hid _ := HD.out.call hk1 hj1
    clear hK K hk1 hj1
    refine wpSch_list rfl rfl (fun K hK => ?_)
    go_wp2_with (refine wpList_store_box rfl 29 _ _ rfl w.heap.size _ rfl rfl _ HM1.out.o.box Try.info29 rfl hsz.2 ?_; intro w5 hx5 hg5; have hc := hx5.cell; have HM5 : Hid _ := HM1.out.store E hx5 hg5)
    refine hK _ _ (fun h => absurd rfl h) ?_
    clear hK K
    unfold wpSch
    go_wp2_with fail
    exact bodyPost_ret (by simp [results, Try.results104, go_sem, hc]) rfl ⟨rfl, HM5.out.m.kp, HM5.out.m.j⟩
end
end Go.Proofs.Ytokdaapmejccbaa
