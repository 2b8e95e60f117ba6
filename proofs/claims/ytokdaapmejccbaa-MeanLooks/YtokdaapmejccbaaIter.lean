import Derived.RangeFuncNested
import Derived.RangeFuncBound
import Derived.RangeFuncCalls
import Derived.RangeFuncLeaves
import Derived.Shelf.Abstract
import Derived.Shelf.RegionOpen
import Derived.WalkKit
import Derived.OwnWalkIn
import Derived.TacticsInMore
import Derived.LoopNIn
import Derived.LoopIn
import Derived.Test.YtokdaapmejccbaaEx
namespace Go.Proofs.Ytokdaapmejccbaa
open Go.RowKit Go.Shelf
open Ex.In (InL)
attribute [local go_sem] Oper.semAt_some
theorem room_of_none {F : Fence} (hd : F.depth = none) (k : Nat) : F.room k := fun d h => by rw [hd] at h; cases h
theorem RoundIn_any {F : Fence} (hd : F.depth = none) {m m' : Nat} {P : Program} {l : Nat} {f : FuncId} {tmps : Array Value} {assign body : Code} {w : World} {R : Ending → World → Prop}
    (h : RoundIn F m P l f tmps assign body w R) : RoundIn F m' P l f tmps assign body w R := ⟨h.1, fun c cs _ => h.2 c cs (room_of_none hd _)⟩
theorem YieldAt_any {F : Fence} (hd : F.depth = none) {m : Nat} (m' : Nat) {P : Program} {l : Nat} {args : Array Value} {W : World} {R : Ending → World → Prop} (h : YieldAt F m P l args W R) : YieldAt F m' P l args W R := by
  obtain ⟨fn, tmps, assign, body, hy, hR⟩ := h
  exact ⟨fn, tmps, assign, body, hy, RoundIn_any hd hR⟩
/-- Blocks of cells that lie outside lo .. hi are as they were. -/
structure Kp (lo hi : Nat) (W W' : World) : Prop where
  size : W.heap.size ≤ W'.heap.size
  same : ∀ k o, (k < lo ∨ hi ≤ k) → W.heap[k]? = some o → o.isCells = true → W'.heap[k]? = some o
theorem Kp.refl (lo hi : Nat) (W : World) : Kp lo hi W W := ⟨Nat.le_refl _, fun _ _ _ h _ => h⟩
theorem Kp.trans {lo hi : Nat} {X Y Z : World} (h : Kp lo hi X Y) (k : Kp lo hi Y Z) : Kp lo hi X Z :=
  ⟨Nat.le_trans h.size k.size, fun i o hi' ho hc => k.same i o hi' (h.same i o hi' ho hc) hc⟩
theorem Kp.alloc (lo hi : Nat) (W : World) (o : Obj) : Kp lo hi W (W.alloc o) :=
  ⟨by simp, fun k o' _ h _ => (Below.heap_alloc W o k (Array.getElem?_eq_some_iff.1 h).1).trans h⟩
theorem Kp.put {lo hi : Nat} (W : World) (l : Nat) (o o' : Obj) (hl : W.heap[l]? = some o) (hc : o.isCells = false) : Kp lo hi W (W.putObj l o') :=
  ⟨by simp, fun k o2 _ h h2 => by
    by_cases e : k = l
    · subst e; rw [hl] at h; cases h; rw [hc] at h2; cases h2
    · exact (World.putObj_heap_other (by omega)).trans h⟩
theorem isCells_of_cell {W : World} {a : Addr} {v : Value} (h : W.cell? a = some v) : ∃ o, W.heap[a.block]? = some o ∧ o.isCells = true := by
  unfold World.cell? at h
  split at h
  · rename_i h1
    exact ⟨_, h1, rfl⟩
  all_goals cases h
theorem Kp.cell {lo hi : Nat} {W W' : World} (h : Kp lo hi W W') {b o : Nat} {v : Value} (hb : b < lo ∨ hi ≤ b) (hc : W.cell? ⟨b, o, none⟩ = some v) : W'.cell? ⟨b, o, none⟩ = some v := by
  obtain ⟨ob, h1, h2⟩ := isCells_of_cell hc
  have h3 := h.same b ob hb h1 h2
  rw [← hc]
  unfold World.cell?
  rw [show W'.heap[(⟨b, o, none⟩ : Addr).block]? = some ob from h3, show W.heap[(⟨b, o, none⟩ : Addr).block]? = some ob from h1]
theorem Ex.In.kp {n lo hi : Nat} {A B : World} (hn : n ≤ lo) (h : Kp lo hi A B) : ∀ {e : Ex}, Ex.In n A e → Ex.In n B e
  | .mk _ _ _ _ _ kids, hi => by
    rw [Ex.In] at hi ⊢
    exact ⟨hi.1, go hn h kids hi.2⟩
  where
  go {n lo hi : Nat} {A B : World} (hn : n ≤ lo) (h : Kp lo hi A B) {a : Option Addr} : ∀ {i : Nat} (l : List Ex), InL n A a i l → InL n B a i l
    | _, [], _ => by rw [InL]; trivial
    | i, e :: r, hi => by
      rw [InL] at hi ⊢
      obtain ⟨⟨b, o, ha, hb, hc⟩, h1, h2⟩ := hi
      refine ⟨⟨b, o, ha, hb, fun j hj => ?_⟩, Ex.In.kp hn h h1, go hn h r h2⟩
      have h3 := hc j hj
      obtain ⟨v, hv⟩ : ∃ v, e.cells[j]? = some v := ⟨_, Array.getElem?_eq_getElem (by show j < 7; omega)⟩
      rw [hv] at h3 ⊢
      exact h.cell (.inl (Nat.lt_of_lt_of_le hb hn)) h3
theorem InL.kp {n lo hi : Nat} {A B : World} (hn : n ≤ lo) (h : Kp lo hi A B) {a : Option Addr} : ∀ {i : Nat} (l : List Ex), InL n A a i l → InL n B a i l := Ex.In.kp.go hn h
end Go.Proofs.Ytokdaapmejccbaa
