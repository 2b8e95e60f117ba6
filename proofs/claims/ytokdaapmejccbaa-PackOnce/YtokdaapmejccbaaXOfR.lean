import Derived.Test.YtokdaapmejccbaaXThen
import Derived.Test.YtokdaapmejccbaaXRbi
import Derived.WalkKit
import Derived.Below
import Derived.Deep.QuietTactic
import Derived.BigQuiet
import Derived.BigRegion
import Derived.Test.YtokdaapmejccbaaXLat
namespace Go.Proofs.Ytokdaapmejccbaa
open Go.RowKit
set_option linter.unusedVariables false
set_option linter.unusedSimpArgs false
set_option maxRecDepth 20000 in
set_option maxHeartbeats 4000000 in
theorem fold1 (g : FuncId) (a : Fa) (B o c : Nat) (w : World) (h : FAt w B o [a]) :
    Calls Try.prog 107 #[.slice (some ⟨B, o, none⟩) 1 c, .func (.func g) #[] #[]] w fun r W' => r = .returned (fval a) ∧ Below w.heap.size w W' := by
  have hA0 := (Below.refl w.heap.size w).alloc (Nat.le_refl _) (.cells #[.bool false, .bool false, .bool false] 61)
  have hA := (Below.refl w.heap.size w).alloc (Nat.le_refl _) (.cells #[.bool a.1, .bool a.2.1, .bool a.2.2] 61)
  obtain ⟨c0, c1, c2⟩ := (h.below hA0 h.lt) 0 _ rfl
  simp only [Nat.zero_mul, Nat.add_zero] at c0 c1 c2
  obtain ⟨x, y, z⟩ := a
  go_enter Try.func107, Try.ntmps107
  go_wp2_with fail
  exact bodyPost_ret (v := fval (x, y, z)) (by simp [results, Try.results107, go_sem, fval_eq]) rfl ⟨rfl, hA⟩
/-- What stays while two are made one. -/
structure Kfo (w : World) (N : Nat) (W : World) : Prop where
  bel : Below w.heap.size w W
  le : w.heap.size ≤ N
  sl : Sl W N
theorem Kfo.step {w : World} {N : Nat} {W W' : World} (h : Kfo w N W) (hb : Below W.heap.size W W') : Kfo w N W' := ⟨h.bel.trans (hb.mono h.bel.size), h.le, h.sl.below hb h.sl.lt⟩
theorem Kfo.drew {w : World} {N : Nat} {W : World} (h : Kfo w N W) : Kfo w N W.drew := h.step (Below.refl _ W).drew
theorem Kfo.put {w : World} {N : Nat} {W : World} (h : Kfo w N W) (j : Nat) (v : Value) : Kfo w N (W.setCell ⟨N, j, none⟩ v) := ⟨h.bel.setCell h.le v, h.le, h.sl.set j v⟩
theorem Kfo.new (w : World) : Kfo w w.heap.size (w.alloc (.cells #[.bool false, .bool false, .bool false] 61)) := ⟨(Below.refl _ w).alloc (Nat.le_refl _) _, Nat.le_refl _, ⟨_, BoxN.new w 61 _, rfl⟩⟩
theorem Kfo.fin {w : World} {N : Nat} {W : World} (h : Kfo w N W) (u v x : Value) : Below w.heap.size w (((W.setCell ⟨N, 0, none⟩ u).setCell ⟨N, 1, none⟩ v).setCell ⟨N, 2, none⟩ x) := (((h.put 0 u).put 1 v).put 2 x).bel
set_option maxRecDepth 20000 in
set_option maxHeartbeats 4000000 in
theorem foldT (a b : Fa) (l : List Fa) (B o c : Nat) (w : World) (h : FAt w B o (a :: b :: l)) (hl : l.length ≤ 100) (hc : l.length + 2 ≤ c)
    (hf : ∀ W, Below w.heap.size w W → Calls Try.prog 107 #[.slice (some ⟨B, o + 3, none⟩) (l.length + 1) (c - 1), .func (.func 108) #[] #[]] W fun r W' => r = .returned (fval (foldF thenF (b :: l))) ∧ Below W.heap.size W W') :
    Calls Try.prog 107 #[.slice (some ⟨B, o, none⟩) (l.length + 2) c, .func (.func 108) #[] #[]] w fun r W' => r = .returned (fval (thenF a (foldF thenF (b :: l)))) ∧ Below w.heap.size w W' := by
  have hB := h.lt
  have hFA : Hid (∀ W, Below w.heap.size w W → FAt W B o (a :: b :: l)) := fun W hb => h.below hb hB
  have hK := Kfo.new w
  have g1 : ((l.length : Int) + 2 == 1) = false := by rw [beq_eq_false_iff_ne]; omega
  have i0 : (0 : Int) < (l.length : Int) + 2 := by omega
  have i3 : ¬ c = 1 := by omega
  have i1 : (1 : Int) ≤ (l.length : Int) + 2 := by omega
  have i2 : (l.length : Int) + 2 ≤ (c : Int) := by omega
  have g1' : ((↑(l.length + 2) : Int) == 1) = false := by rw [beq_eq_false_iff_ne]; omega
  generalize foldF thenF (b :: l) = R at *
  have htw : ∀ W, Calls Try.prog 108 #[.agg #[.bool a.1, .bool a.2.1, .bool a.2.2], fval R] W fun r W' => r = .returned (fval (thenF a R)) ∧ Below W.heap.size W W' := fun W => then_any a R W
  go_enter Try.func107, Try.ntmps107
  go_wp2_with fail
  generalize w.alloc (.cells #[.bool false, .bool false, .bool false] 61) = w1 at *
  refine wp_region_lit (Kfo w w.heap.size) _ _ (by kernel_rfl) rfl (by kernel_rfl) (by kernel_rfl) (Kfo.drew hK) ?_
  dsimp only [List.dropLast]
  repeat (first
    | go_big_quiet_skip
    | (go_big_quiet_want
       apply Exists.intro
       refine ⟨fun W hW => ?_, ?_⟩
       · obtain ⟨c0, c1, c2⟩ := hFA.out W hW.bel 0 _ rfl
         simp only [Nat.zero_mul, Nat.add_zero] at c0 c1 c2
         unfold Oper.quietAt
         go_simp
         first
           | with_reducible exact rfl
           | with_reducible exact ⟨rfl, rfl⟩
           | (go_at_call 107
              refine (hf W hW.bel).mono ?_
              rintro e W1 ⟨rfl, hb⟩
              exact ⟨rfl, hW.step hb⟩)
           | (refine (htw W).mono ?_
              rintro e W1 ⟨rfl, hb⟩
              exact ⟨rfl, hW.step hb⟩)
       go_big_quiet_on
       simp only [Act.put, List.setIfInBounds_toArray, List.set_cons_zero, List.set_cons_succ]))
  refine wpQuiet_nil ?_
  intro W hW
  have hfin := hW.fin (.bool (thenF a R).1) (.bool (thenF a R).2.1) (.bool (thenF a R).2.2)
  obtain ⟨z0, z1, z2⟩ := hW.sl.last (.bool (thenF a R).1) (.bool (thenF a R).2.1) (.bool (thenF a R).2.2)
  have e0 := hW.sl.c 0 (by omega)
  have e1 := hW.sl.c 1 (by omega)
  have e2 := hW.sl.c 2 (by omega)
  have f0 := hW.sl.f 0
  have f1 := hW.sl.f 1
  have f2 := hW.sl.f 2
  rw [fval_eta (thenF a R)]
  rw [if_pos (by rfl)]
  go_simp
  go_wp2_with fail
  exact bodyPost_ret (v := fval (thenF a R)) (by simp [results, Try.results107, go_sem, z0, z1, z2, fval_eta]) rfl ⟨rfl, hfin⟩
theorem foldT_any : ∀ (l : List Fa) (a : Fa) (B o c : Nat) (w : World), FAt w B o (a :: l) → l.length ≤ 100 → l.length + 1 ≤ c →
    Calls Try.prog 107 #[.slice (some ⟨B, o, none⟩) (l.length + 1) c, .func (.func 108) #[] #[]] w fun r W' => r = .returned (fval (foldF thenF (a :: l))) ∧ Below w.heap.size w W'
  | [], a, B, o, c, w, h, _, _ => by rw [foldF, if_pos rfl]; exact fold1 108 a B o c w h
  | b :: l, a, B, o, c, w, h, hl, hc => by
    rw [foldF, if_neg (by simp)]
    have hl' : l.length ≤ 100 := by simp at hl; omega
    have hc' : l.length + 2 ≤ c := by simp at hc; omega
    exact foldT a b l B o c w h hl' hc' fun W hb => foldT_any l b B (o + 3) (c - 1) W (h.below hb h.lt).tail hl' (by omega)
set_option maxRecDepth 20000 in
set_option maxHeartbeats 4000000 in
theorem foldO (a b : Fa) (l : List Fa) (B o c : Nat) (w : World) (h : FAt w B o (a :: b :: l)) (hl : l.length ≤ 100) (hc : l.length + 2 ≤ c)
    (hf : ∀ W, Below w.heap.size w W → Calls Try.prog 107 #[.slice (some ⟨B, o + 3, none⟩) (l.length + 1) (c - 1), .func (.func 109) #[] #[]] W fun r W' => r = .returned (fval (foldF orF (b :: l))) ∧ Below W.heap.size W W') :
    Calls Try.prog 107 #[.slice (some ⟨B, o, none⟩) (l.length + 2) c, .func (.func 109) #[] #[]] w fun r W' => r = .returned (fval (orF a (foldF orF (b :: l)))) ∧ Below w.heap.size w W' := by
  have hB := h.lt
  have hFA : Hid (∀ W, Below w.heap.size w W → FAt W B o (a :: b :: l)) := fun W hb => h.below hb hB
  have hK := Kfo.new w
  have g1 : ((l.length : Int) + 2 == 1) = false := by rw [beq_eq_false_iff_ne]; omega
  have i0 : (0 : Int) < (l.length : Int) + 2 := by omega
  have i3 : ¬ c = 1 := by omega
  have i1 : (1 : Int) ≤ (l.length : Int) + 2 := by omega
  have i2 : (l.length : Int) + 2 ≤ (c : Int) := by omega
  have g1' : ((↑(l.length + 2) : Int) == 1) = false := by rw [beq_eq_false_iff_ne]; omega
  generalize foldF orF (b :: l) = R at *
  have htw : ∀ W, Calls Try.prog 109 #[.agg #[.bool a.1, .bool a.2.1, .bool a.2.2], fval R] W fun r W' => r = .returned (fval (orF a R)) ∧ Below W.heap.size W W' := fun W => orElse_any a R W
  go_enter Try.func107, Try.ntmps107
  go_wp2_with fail
  generalize w.alloc (.cells #[.bool false, .bool false, .bool false] 61) = w1 at *
  refine wp_region_lit (Kfo w w.heap.size) _ _ (by kernel_rfl) rfl (by kernel_rfl) (by kernel_rfl) (Kfo.drew hK) ?_
  dsimp only [List.dropLast]
  repeat (first
    | go_big_quiet_skip
    | (go_big_quiet_want
       apply Exists.intro
       refine ⟨fun W hW => ?_, ?_⟩
       · obtain ⟨c0, c1, c2⟩ := hFA.out W hW.bel 0 _ rfl
         simp only [Nat.zero_mul, Nat.add_zero] at c0 c1 c2
         unfold Oper.quietAt
         go_simp
         first
           | with_reducible exact rfl
           | with_reducible exact ⟨rfl, rfl⟩
           | (go_at_call 107
              refine (hf W hW.bel).mono ?_
              rintro e W1 ⟨rfl, hb⟩
              exact ⟨rfl, hW.step hb⟩)
           | (refine (htw W).mono ?_
              rintro e W1 ⟨rfl, hb⟩
              exact ⟨rfl, hW.step hb⟩)
       go_big_quiet_on
       simp only [Act.put, List.setIfInBounds_toArray, List.set_cons_zero, List.set_cons_succ]))
  refine wpQuiet_nil ?_
  intro W hW
  have hfin := hW.fin (.bool (orF a R).1) (.bool (orF a R).2.1) (.bool (orF a R).2.2)
  obtain ⟨z0, z1, z2⟩ := hW.sl.last (.bool (orF a R).1) (.bool (orF a R).2.1) (.bool (orF a R).2.2)
  have e0 := hW.sl.c 0 (by omega)
  have e1 := hW.sl.c 1 (by omega)
  have e2 := hW.sl.c 2 (by omega)
  have f0 := hW.sl.f 0
  have f1 := hW.sl.f 1
  have f2 := hW.sl.f 2
  rw [fval_eta (orF a R)]
  rw [if_pos (by rfl)]
  go_simp
  go_wp2_with fail
  exact bodyPost_ret (v := fval (orF a R)) (by simp [results, Try.results107, go_sem, z0, z1, z2, fval_eta]) rfl ⟨rfl, hfin⟩
theorem foldO_any : ∀ (l : List Fa) (a : Fa) (B o c : Nat) (w : World), FAt w B o (a :: l) → l.length ≤ 100 → l.length + 1 ≤ c →
    Calls Try.prog 107 #[.slice (some ⟨B, o, none⟩) (l.length + 1) c, .func (.func 109) #[] #[]] w fun r W' => r = .returned (fval (foldF orF (a :: l))) ∧ Below w.heap.size w W'
  | [], a, B, o, c, w, h, _, _ => by rw [foldF, if_pos rfl]; exact fold1 109 a B o c w h
  | b :: l, a, B, o, c, w, h, hl, hc => by
    rw [foldF, if_neg (by simp)]
    have hl' : l.length ≤ 100 := by simp at hl; omega
    have hc' : l.length + 2 ≤ c := by simp at hc; omega
    exact foldO a b l B o c w h hl' hc' fun W hb => foldO_any l b B (o + 3) (c - 1) W (h.below hb h.lt).tail hl' (by omega)
end Go.Proofs.Ytokdaapmejccbaa
namespace Go.Proofs.Ytokdaapmejccbaa
open Go.RowKit
set_option linter.unusedVariables false
set_option linter.unusedSimpArgs false
/-- A row of facts of the call's own. -/
def Fx (W : World) (B : Nat) (l : List Fa) : Prop := ∃ cs : Array Value, BoxN W B 61 cs ∧ cs.size = l.length * 3 ∧ ∀ (j : Nat) f, l[j]? = some f → cs[j * 3]? = some (.bool f.1) ∧ cs[j * 3 + 1]? = some (.bool f.2.1) ∧ cs[j * 3 + 2]? = some (.bool f.2.2)
theorem Fx.lt {W : World} {B : Nat} {l : List Fa} (h : Fx W B l) : B < W.heap.size := by obtain ⟨cs, h1, _⟩ := h; exact h1.lt
theorem Fx.fat {W : World} {B : Nat} {l : List Fa} (h : Fx W B l) : FAt W B 0 l := fun j f hf => by
  obtain ⟨cs, h1, h2, h3⟩ := h
  have := h3 j f hf
  rw [Nat.zero_add, h1.cell, h1.cell, h1.cell]
  exact this
theorem Fx.below {n : Nat} {W W' : World} {B : Nat} {l : List Fa} (h : Fx W B l) (hb : Below n W W') (hB : B < n) : Fx W' B l := by
  obtain ⟨cs, h1, h2⟩ := h
  exact ⟨cs, h1.below hb hB, h2⟩
theorem Fx.kept {W W' : World} {row : Option Nat} {B : Nat} {l : List Fa} (h : Fx W B l) (hg : W.grownBy W' row) (hne : some B ≠ row) : Fx W' B l := by
  obtain ⟨cs, h1, h2⟩ := h
  exact ⟨cs, h1.kept hg hne, h2⟩
theorem Fx.frozen {W : World} {B : Nat} {l : List Fa} (h : Fx W B l) (i : Nat) : W.frozen? ⟨B, i, none⟩ = false := by
  obtain ⟨cs, h1, _⟩ := h
  simp [World.frozen?, show W.heap[B]? = _ from h1]
theorem Fx.c {W : World} {B : Nat} {l : List Fa} (h : Fx W B l) {i : Nat} (hi : i < l.length) (m : Nat) (hm : m < 3) : W.cell? ⟨B, i * 3 + m, none⟩ = some (cvl W ⟨B, i * 3 + m, none⟩) := by
  obtain ⟨cs, h1, h2, _⟩ := h
  unfold cvl
  rw [h1.cell, Array.getElem?_eq_getElem (by omega)]; rfl
theorem Fx.set {W : World} {B : Nat} {l : List Fa} (h : Fx W B l) {i : Nat} (hi : i < l.length) (f : Fa) :
    Fx (((W.setCell ⟨B, i * 3, none⟩ (.bool f.1)).setCell ⟨B, i * 3 + 1, none⟩ (.bool f.2.1)).setCell ⟨B, i * 3 + 2, none⟩ (.bool f.2.2)) B (l.set i f) := by
  obtain ⟨cs, h1, h2, h3⟩ := h
  have k1 : BoxN _ B 61 _ := Go.Lib.heap_setCell_same (w := W) (b := B) (i := i * 3) h1 (.bool f.1)
  have k2 : BoxN _ B 61 _ := Go.Lib.heap_setCell_same (b := B) (i := i * 3 + 1) k1 (.bool f.2.1)
  have k3 : BoxN _ B 61 _ := Go.Lib.heap_setCell_same (b := B) (i := i * 3 + 2) k2 (.bool f.2.2)
  refine ⟨_, k3, by simp [h2], fun j g hg => ?_⟩
  by_cases e : i = j
  · subst e
    rw [List.getElem?_set_self hi] at hg
    cases hg
    refine ⟨?_, ?_, ?_⟩ <;> simp [Array.getElem?_setIfInBounds] <;> omega
  · rw [List.getElem?_set_ne e] at hg
    have := h3 j g hg
    refine ⟨?_, ?_, ?_⟩
    · rw [Array.getElem?_setIfInBounds, if_neg (by omega), Array.getElem?_setIfInBounds, if_neg (by omega), Array.getElem?_setIfInBounds, if_neg (by omega)]; exact this.1
    · rw [Array.getElem?_setIfInBounds, if_neg (by omega), Array.getElem?_setIfInBounds, if_neg (by omega), Array.getElem?_setIfInBounds, if_neg (by omega)]; exact this.2.1
    · rw [Array.getElem?_setIfInBounds, if_neg (by omega), Array.getElem?_setIfInBounds, if_neg (by omega), Array.getElem?_setIfInBounds, if_neg (by omega)]; exact this.2.2
theorem Try.info61 : (Try.prog.info? 61).map (fun i => (i.zero, i.size, i.bytes)) = some (some (.agg #[.bool false, .bool false, .bool false]), 3, 3) := by kernel_rfl
def noFs (n : Nat) : Array Value := madeCells (Value.agg #[.bool false, .bool false, .bool false]).cells (n * 3)
theorem make_facts (n : Nat) (hn : n ≤ 1000) (w : World) : (Instr.makeSlice 48 (.int .i64 (n : Int)) (.int .i64 (n : Int))).run Try.prog w = .ok (.slice (some ⟨w.heap.size, 0, none⟩) n n) (w.alloc (.cells (noFs n) 61)) := by
  obtain ⟨i0, hi, hz⟩ : ∃ i0, Try.prog.info? 61 = some i0 ∧ (i0.zero, i0.size, i0.bytes) = (some (.agg #[.bool false, .bool false, .bool false]), 3, 3) := by
    simpa [Option.map_eq_some_iff] using Try.info61
  simp only [Prod.mk.injEq] at hz
  obtain ⟨hz0, hz1, hz2⟩ := hz
  have := run_makeSlice (P := Try.prog) w 48 61 i0 (.agg #[.bool false, .bool false, .bool false]) Try.underlying48 hi hz0 .i64 .i64 n n (by omega) (by omega) (by rw [hz1]; simp; omega) (by rw [hz2]; omega) (by omega)
  rw [hz1] at this
  simp only [Int.toNat_natCast] at this
  exact this
theorem Fx.new (W : World) (n : Nat) : Fx (W.alloc (.cells (noFs n) 61)) W.heap.size (List.replicate n noF) := by
  refine ⟨noFs n, BoxN.new W 61 (noFs n), by simp [noFs, madeCells], fun j f hf => ?_⟩
  rw [List.getElem?_replicate] at hf
  split at hf
  · cases hf
    rename_i hj
    have h0 : j * 3 < n * 3 := by omega
    have h1 : j * 3 + 1 < n * 3 := by omega
    have h2 : j * 3 + 2 < n * 3 := by omega
    refine ⟨?_, ?_, ?_⟩ <;> simp [noFs, madeCells, Value.cells, noF, h0, h1, h2] <;> first | rfl | (simp [Nat.add_mod]; done) | skip
  · cases hf
/-- Facts that are known of a grammar's rules, and how a closure finds them. -/
structure Kn (m : Nat) (W : World) (g : Gr) (l : List Fa) (kb gb K : Nat) : Prop where
  lk : kb < m
  lg : gb < m
  lK : K < m
  hm : m ≤ W.heap.size
  len : l.length = g.rules.length
  bk : BoxN W kb 48 #[.slice (some ⟨K, 0, none⟩) g.rules.length g.rules.length]
  bg : BoxN W gb 24 #[.slice g.a g.rules.length g.c]
  bK : FAt W K 0 l
  gi : g.In m W
theorem Kn.below {m n : Nat} {W W' : World} {g : Gr} {l : List Fa} {kb gb K : Nat} (h : Kn m W g l kb gb K) (hb : Below n W W') (hn : m ≤ n) : Kn m W' g l kb gb K :=
  ⟨h.lk, h.lg, h.lK, Nat.le_trans h.hm hb.size, h.len, h.bk.below hb (Nat.lt_of_lt_of_le h.lk hn), h.bg.below hb (Nat.lt_of_lt_of_le h.lg hn), h.bK.below hb (Nat.lt_of_lt_of_le h.lK hn), h.gi.below (hb.mono hn)⟩
theorem Kn.grow {m : Nat} {W W' : World} {g : Gr} {l : List Fa} {kb gb K : Nat} (h : Kn m W g l kb gb K) (hb : Below W.heap.size W W') : Kn m W' g l kb gb K := h.below hb h.hm
def ofv (kb gb : Nat) : Value := .func (.func 83) #[] #[.pointer (some ⟨kb, 0, none⟩), .pointer (some ⟨gb, 0, none⟩)]
set_option maxRecDepth 20000 in
set_option maxHeartbeats 4000000 in
theorem ofRule_any (g : Gr) (l : List Fa) (kb gb K m : Nat) (s : ByteArray) (hs : IsRule g s) (hl : g.rules.length ≤ 10) (w : World) (hk : Kn m w g l kb gb K) :
    Calls Try.prog 83 #[.string s, .pointer (some ⟨kb, 0, none⟩), .pointer (some ⟨gb, 0, none⟩)] w fun r W' => r = .returned (fval (ofL noF g.rules l s)) ∧ Below w.heap.size w W' := by
  obtain ⟨k, hfk, hkl⟩ := hs
  obtain ⟨f, hf⟩ : ∃ f, l[k]? = some f := ⟨_, List.getElem?_eq_getElem (by rw [hk.len]; exact hkl)⟩
  have hof : ofL noF g.rules l s = f := by unfold ofL; rw [hfk, Int.toNat_natCast, List.getD_eq_getElem?_getD, hf]; rfl
  rw [hof]
  have hfin : ∀ W, Kn m W g l kb gb K → Calls Try.prog 75 #[.agg #[.slice g.a g.rules.length g.c], .string s] W fun r W' => r = .returned (.int .i64 (k : Int)) ∧ Below W.heap.size W W' := fun W h => by
    have := find_any g s W (h.gi.mono h.hm)
    rw [hfk] at this
    exact this
  have hKn : Hid (∀ W, Below w.heap.size w W → Kn m W g l kb gb K ∧ FAt W K 0 l) := fun W hb => ⟨hk.grow hb, (hk.grow hb).bK⟩
  have hK := Kfo.new w
  have i0 : (0 : Int) ≤ (k : Int) := by omega
  have i1 : (k : Int) < (g.rules.length : Int) := by omega
  have i2 : k < g.rules.length := hkl
  go_enter Try.func83, Try.ntmps83
  go_wp2_with fail
  generalize w.alloc (.cells #[.bool false, .bool false, .bool false] 61) = w1 at *
  refine wp_region_lit (Kfo w w.heap.size) _ _ (by kernel_rfl) rfl (by kernel_rfl) (by kernel_rfl) (Kfo.drew hK) ?_
  dsimp only [List.dropLast]
  repeat (first
    | go_big_quiet_skip
    | (go_big_quiet_want
       apply Exists.intro
       refine ⟨fun W hW => ?_, ?_⟩
       · obtain ⟨hn, hfa⟩ := hKn.out W hW.bel
         have q0 : W.cell? ⟨kb, 0, none⟩ = some (.slice (some ⟨K, 0, none⟩) g.rules.length g.rules.length) := hn.bk.cell 0
         have q1 : W.cell? ⟨gb, 0, none⟩ = some (.slice g.a g.rules.length g.c) := hn.bg.cell 0
         obtain ⟨c0, c1, c2⟩ := hfa k f hf
         rw [Nat.zero_add] at c0 c1 c2
         unfold Oper.quietAt
         go_simp
         first
           | with_reducible exact rfl
           | with_reducible exact ⟨rfl, rfl⟩
           | (go_at_call 75
              refine (hfin W hn).mono ?_
              rintro e W1 ⟨rfl, hb⟩
              exact ⟨rfl, hW.step hb⟩)
       go_big_quiet_on
       simp only [Act.put, List.setIfInBounds_toArray, List.set_cons_zero, List.set_cons_succ]))
  refine wpQuiet_nil ?_
  intro W hW
  have hfn := hW.fin (.bool f.1) (.bool f.2.1) (.bool f.2.2)
  obtain ⟨z0, z1, z2⟩ := hW.sl.last (.bool f.1) (.bool f.2.1) (.bool f.2.2)
  have e0 := hW.sl.c 0 (by omega)
  have e1 := hW.sl.c 1 (by omega)
  have e2 := hW.sl.c 2 (by omega)
  have f0 := hW.sl.f 0
  have f1 := hW.sl.f 1
  have f2 := hW.sl.f 2
  rw [if_pos (by rfl)]
  go_simp
  go_wp2_with fail
  exact bodyPost_ret (v := fval f) (by simp [results, Try.results83, go_sem, z0, z1, z2, fval_eta]) rfl ⟨rfl, hfn⟩
end Go.Proofs.Ytokdaapmejccbaa
