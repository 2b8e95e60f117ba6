import Derived.RangeFuncNested
import Derived.RangeFuncBound
import Derived.RangeFuncCalls
import Derived.RangeFuncLeaves
import Derived.Shelf.Abstract
import Derived.Shelf.RegionOpen
import Derived.WalkKit
import Derived.OwnWalkIn
import Derived.TacticsInMore
import Derived.LoopNIn
import Derived.LoopIn
import Derived.Test.YtokdaapmejccbaaXEq
namespace Go.Proofs.Ytokdaapmejccbaa
open Go.RowKit Go.Shelf
open Ex.In (InL)
attribute [local go_sem] Oper.semAt_some
theorem room_of_none {F : Fence} (hd : F.depth = none) (k : Nat) : F.room k := fun d h => by rw [hd] at h; cases h
theorem RoundIn_any {F : Fence} (hd : F.depth = none) {m m' : Nat} {P : Program} {l : Nat} {f : FuncId} {tmps : Array Value} {assign body : Code} {w : World} {R : Ending → World → Prop}
    (h : RoundIn F m P l f tmps assign body w R) : RoundIn F m' P l f tmps assign body w R := ⟨h.1, fun c cs _ => h.2 c cs (room_of_none hd _)⟩
theorem YieldAt_any {F : Fence} (hd : F.depth = none) {m : Nat} (m' : Nat) {P : Program} {l : Nat} {args : Array Value} {W : World} {R : Ending → World → Prop} (h : YieldAt F m P l args W R) : YieldAt F m' P l args W R := by
  obtain ⟨fn, tmps, assign, body, hy, hR⟩ := h
  exact ⟨fn, tmps, assign, body, hy, RoundIn_any hd hR⟩
/-- Blocks of cells that lie outside lo .. hi are as they were. -/
structure Kp (lo hi : Nat) (W W' : World) : Prop where
  size : W.heap.size ≤ W'.heap.size
  same : ∀ k o, (k < lo ∨ hi ≤ k) → W.heap[k]? = some o → o.isCells = true → W'.heap[k]? = some o
theorem Kp.refl (lo hi : Nat) (W : World) : Kp lo hi W W := ⟨Nat.le_refl _, fun _ _ _ h _ => h⟩
theorem Kp.trans {lo hi : Nat} {X Y Z : World} (h : Kp lo hi X Y) (k : Kp lo hi Y Z) : Kp lo hi X Z :=
  ⟨Nat.le_trans h.size k.size, fun i o hi' ho hc => k.same i o hi' (h.same i o hi' ho hc) hc⟩
theorem Kp.alloc (lo hi : Nat) (W : World) (o : Obj) : Kp lo hi W (W.alloc o) :=
  ⟨by simp, fun k o' _ h _ => (Below.heap_alloc W o k (Array.getElem?_eq_some_iff.1 h).1).trans h⟩
theorem Kp.put {lo hi : Nat} (W : World) (l : Nat) (o o' : Obj) (hl : W.heap[l]? = some o) (hc : o.isCells = false) : Kp lo hi W (W.putObj l o') :=
  ⟨by simp, fun k o2 _ h h2 => by
    by_cases e : k = l
    · subst e; rw [hl] at h; cases h; rw [hc] at h2; cases h2
    · exact (World.putObj_heap_other (by omega)).trans h⟩
theorem isCells_of_cell {W : World} {a : Addr} {v : Value} (h : W.cell? a = some v) : ∃ o, W.heap[a.block]? = some o ∧ o.isCells = true := by
  unfold World.cell? at h
  split at h
  · rename_i h1
    exact ⟨_, h1, rfl⟩
  all_goals cases h
theorem Kp.cell {lo hi : Nat} {W W' : World} (h : Kp lo hi W W') {b o : Nat} {v : Value} (hb : b < lo ∨ hi ≤ b) (hc : W.cell? ⟨b, o, none⟩ = some v) : W'.cell? ⟨b, o, none⟩ = some v := by
  obtain ⟨ob, h1, h2⟩ := isCells_of_cell hc
  have h3 := h.same b ob hb h1 h2
  rw [← hc]
  unfold World.cell?
  rw [show W'.heap[(⟨b, o, none⟩ : Addr).block]? = some ob from h3, show W.heap[(⟨b, o, none⟩ : Addr).block]? = some ob from h1]
theorem Ex.In.kp {n lo hi : Nat} {A B : World} (hn : n ≤ lo) (h : Kp lo hi A B) : ∀ {e : Ex}, Ex.In n A e → Ex.In n B e
  | .mk _ _ _ _ _ kids, hi => by
    rw [Ex.In] at hi ⊢
    exact ⟨hi.1, go hn h kids hi.2⟩
  where
  go {n lo hi : Nat} {A B : World} (hn : n ≤ lo) (h : Kp lo hi A B) {a : Option Addr} : ∀ {i : Nat} (l : List Ex), InL n A a i l → InL n B a i l
    | _, [], _ => by rw [InL]; trivial
    | i, e :: r, hi => by
      rw [InL] at hi ⊢
      obtain ⟨⟨b, o, ha, hb, hc⟩, h1, h2⟩ := hi
      refine ⟨⟨b, o, ha, hb, fun j hj => ?_⟩, Ex.In.kp hn h h1, go hn h r h2⟩
      have h3 := hc j hj
      obtain ⟨v, hv⟩ : ∃ v, e.cells[j]? = some v := ⟨_, Array.getElem?_eq_getElem (by show j < 7; omega)⟩
      rw [hv] at h3 ⊢
      exact h.cell (.inl (Nat.lt_of_lt_of_le hb hn)) h3
theorem InL.kp {n lo hi : Nat} {A B : World} (hn : n ≤ lo) (h : Kp lo hi A B) {a : Option Addr} : ∀ {i : Nat} (l : List Ex), InL n A a i l → InL n B a i l := Ex.In.kp.go hn h
end Go.Proofs.Ytokdaapmejccbaa
namespace Go.Proofs.Ytokdaapmejccbaa
open Go.RowKit Go.Shelf
open Ex.nodes (nodesL)
attribute [local go_sem] Oper.semAt_some
theorem abides_alloc {β : Type} {B : Nat} {J : β → World → Prop} (h : AbidesFrom B J) {s : β} {W : World} (o : Obj) (hs : J s W) : J s (W.alloc o) :=
  h s W _ none hs (World.grownBy_alloc W o none) (fun r e => by cases e)
theorem val_eq (e : Ex) : e.val = .agg #[.int .i64 e.k, .int .u64 (wd e.S 0), .int .u64 (wd e.S 1), .int .u64 (wd e.S 2), .int .u64 (wd e.S 3), .string e.t, .slice e.a e.kids.length e.c] := rfl
theorem cells_eq (e : Ex) : e.cells = #[.int .i64 e.k, .int .u64 (wd e.S 0), .int .u64 (wd e.S 1), .int .u64 (wd e.S 2), .int .u64 (wd e.S 3), .string e.t, .slice e.a e.kids.length e.c] := rfl
set_option maxRecDepth 100000 in
set_option maxHeartbeats 1000000 in
theorem go_in (l n₀ lo hi N B : Nat) (hlo : n₀ ≤ lo) (J Jx : List (Int × Ex) → World → Prop) (hJ : AbidesFrom B J)
    (hY : ∀ m pre (x : Int × Ex) W, J pre W → pre.length < N → YieldAt Fence.wide m Try.prog l #[.int .i64 x.1, x.2.val] W fun e W' =>
      (e = .returned (.bool true) ∧ J (pre ++ [x]) W' ∧ Kp lo hi W W') ∨ (e = .returned (.bool false) ∧ Jx (pre ++ [x]) W')) :
    ∀ (s : Nat) (e : Ex), e.size ≤ s → ∀ (n : Nat) (d : Int) (pre : List (Int × Ex)) (W : World), e.In n₀ W → J pre W → hi ≤ W.heap.size → pre.length + (e.nodes d).length ≤ N →
      CallsIn Fence.wide n Try.prog 136 #[e.val, .int .i64 d, .func (.yield l) #[] #[]] W fun r W' =>
        (r = .returned (.bool true) ∧ J (pre ++ e.nodes d) W' ∧ Kp lo hi W W') ∨ (r = .returned (.bool false) ∧ ∃ q, q <+: e.nodes d ∧ Jx (pre ++ q) W') := by
  intro s
  induction s with
  | zero =>
    intro e he
    cases e with
    | mk k S t a c kids => rw [Ex.size] at he; omega
  | succ s ih =>
    intro e he n d pre W hin hJp hhi hN
    have hdd : ∀ k : Nat, (Fence.wide.depth.isSome = true → 1 ≤ k) := fun k h => by cases h
    have hJ1 := abides_alloc hJ (.cells e.cells 57) hJp
    have hlen : pre.length < N := by rw [nodes_eq] at hN; simp at hN; omega
    have hyy := YieldAt.mono (hY (n - 1) pre (d, e) _ hJ1 hlen) (R' := fun r W2 => (r = .returned (.bool true) ∧ J (pre ++ [(d, e)]) W2 ∧ Kp lo hi W W2 ∧ W2.cell? ⟨W.heap.size, 6, none⟩ = some (.slice e.a e.kids.length e.c) ∧ e.In n₀ W2) ∨ (r = .returned (.bool false) ∧ Jx (pre ++ [(d, e)]) W2))
      fun r W2 h => h.elim (fun ⟨h1, h2, h3⟩ => .inl ⟨h1, h2, (Kp.alloc lo hi W _).trans h3, h3.cell (.inr hhi) (by
        unfold World.cell?; rw [World.alloc_heap_new]; rfl), (hin.kp hlo (Kp.alloc lo hi W _)).kp hlo h3⟩) .inr
    obtain ⟨fn, tmps, assign, body, hy, hR⟩ := hyy
    rw [cells_eq, val_eq] at hy
    rw [val_eq]
    refine callsIn_of_wp Try.func136 rfl trivial ?_ rfl
    simp only [Try.ntmps136, List.size_toArray, List.length_cons, List.length_nil, Nat.reduceAdd, Nat.reduceSub, Array.replicate_succ, Array.replicate_zero, List.push_toArray, List.append_toArray, List.nil_append, List.cons_append]
    gi_wp2_with (first
      | ((try refine ⟨hdd _, ?_⟩); refine hR.mono ?_; clear hR hy; rintro r W2 (⟨rfl, hJ2, hk2, hc6, hin2⟩ | ⟨rfl, hx2⟩)))
    · have hlen2 := hin2.len
      have hin3 := hin2
      gi_loopw [17] (fun p wr => ∃ i : Nat, p = .int .i64 i ∧ i ≤ e.kids.length ∧ J (pre ++ (d, e) :: nodesL (wrap64 (d + 1)) (e.kids.take i)) wr ∧ Kp lo hi W wr ∧ e.In n₀ wr) (fun p _ => e.kids.length - (intOf p).toNat)
      case atStart => exact ⟨0, rfl, Nat.zero_le _, by simpa [nodesL] using hJ2, hk2, hin2⟩
      case round =>
        clear hin2 hJ2 hk2 hc6
        obtain ⟨i, rfl, hi', hJ3, hk3, hin4⟩ := hrel
        by_cases hend : i = e.kids.length
        · subst hend
          gi_wp2
          go_ret
          refine .inl ⟨rfl, ?_, hk3⟩
          rw [nodes_eq]
          simpa using hJ3
        · have hlt : i < e.kids.length := by omega
          obtain ⟨x, hx⟩ : ∃ x, e.kids[i]? = some x := ⟨_, List.getElem?_eq_getElem hlt⟩
          obtain ⟨⟨b, o, ha, hb, hc⟩, hinx⟩ := hin4.kid hx
          have c0 := hc 0 (by omega)
          have c1 := hc 1 (by omega)
          have c2 := hc 2 (by omega)
          have c3 := hc 3 (by omega)
          have c4 := hc 4 (by omega)
          have c5 := hc 5 (by omega)
          have c6 := hc 6 (by omega)
          rw [cells_eq] at c0 c1 c2 c3 c4 c5 c6
          simp only [List.getElem?_toArray, List.getElem?_cons_zero, List.getElem?_cons_succ, Nat.add_zero] at c0 c1 c2 c3 c4 c5 c6
          clear hc
          rw [ha]
          have hJ4 := abides_alloc hJ (.cells x.cells 57) hJ3
          have hinx4 := hinx.kp hlo (Kp.alloc lo hi wr (.cells x.cells 57))
          have hszN : (pre ++ (d, e) :: nodesL (wrap64 (d + 1)) (e.kids.take i)).length + (x.nodes (wrap64 (d + 1))).length ≤ N := by
            rw [nodes_eq, nodesL_split _ _ _ _ hx] at hN
            simp at hN ⊢
            omega
          have hsx : x.size ≤ s := by
            have := size_kid (List.mem_of_getElem? hx); omega
          have ihx := ih x hsx (n - 1) (wrap64 (d + 1)) _ _ hinx4 hJ4 (by have := hk3.size; simp; omega) hszN
          rw [cells_eq, val_eq] at ihx
          have HK : Hid (∀ W', Kp lo hi (wr.alloc (.cells x.cells 57)) W' → Kp lo hi W W' ∧ e.In n₀ W') := fun W' h => ⟨hk3.trans ((Kp.alloc lo hi wr _).trans h), hin4.kp hlo ((Kp.alloc lo hi wr _).trans h)⟩
          clear hJ4 hinx4 hszN hsx hJ3 hin4 hinx ih hlen hY hJ hin hJp hN
          gi_wp2_with ((try refine ⟨trivial, hdd _, ?_⟩); gi_at_call 136; refine ihx.mono ?_; clear ihx; rintro r W3 (⟨rfl, hJ5, hk5⟩ | ⟨rfl, q, hq, hx5⟩))
          · go_roundw
            case rel =>
              obtain ⟨h1, h2⟩ := HK.out _ hk5
              refine ⟨i + 1, rfl, by omega, ?_, h1, h2⟩
              rw [nodesL_take _ _ _ _ hx]
              simpa using hJ5
            case measure => (simp only [intOf]; omega)
          · go_ret
            refine .inr ⟨rfl, (d, e) :: (nodesL (wrap64 (d + 1)) (e.kids.take i) ++ q), ?_, by simpa using hx5⟩
            obtain ⟨z, hz⟩ := hq
            rw [nodes_eq, nodesL_split _ _ _ _ hx, ← hz]
            exact ⟨z ++ nodesL (wrap64 (d + 1)) (e.kids.drop (i + 1)), by simp⟩
    · go_ret
      exact .inr ⟨rfl, [(d, e)], by rw [nodes_eq]; exact ⟨_, rfl⟩, hx2⟩

set_option maxRecDepth 100000 in
set_option maxHeartbeats 1000000 in
theorem nodes1_in (n l n₀ lo hi Bt B : Nat) (hlo : n₀ ≤ lo) (J Jx : List (Int × Ex) → World → Prop) (hJ : AbidesFrom B J) (e : Ex)
    (hY : ∀ pre (x : Int × Ex) W, J pre W → pre.length < (e.nodes 1).length → YieldAt Fence.wide (n - 1) Try.prog l #[.int .i64 x.1, x.2.val] W fun e W' =>
      (e = .returned (.bool true) ∧ J (pre ++ [x]) W' ∧ Kp lo hi W W') ∨ (e = .returned (.bool false) ∧ Jx (pre ++ [x]) W'))
    (W : World) (hc : ∀ j, W.cell? ⟨Bt, j, none⟩ = e.cells[j]?) (hin : e.In n₀ W) (h0 : J [] W) (hhi : hi ≤ W.heap.size) :
    CallsIn Fence.wide n Try.prog 135 #[.func (.yield l) #[] #[], .pointer (some ⟨Bt, 0, none⟩)] W fun r W' => (∃ v, r = .returned v) ∧
      ((∃ ys, ys = e.nodes 1 ∧ J ys W') ∨ (∃ pre, pre <+: e.nodes 1 ∧ Jx pre W')) := by
  have hdd : ∀ k : Nat, (Fence.wide.depth.isSome = true → 1 ≤ k) := fun k h => by cases h
  have hp := go_in l n₀ lo hi (e.nodes 1).length B hlo J Jx hJ (fun m pre x W hj hl => YieldAt_any rfl m (hY pre x W hj hl)) e.size e (Nat.le_refl _) (n - 1) 1 [] W hin h0 hhi (by simp)
  rw [val_eq] at hp
  rw [cells_eq] at hc
  refine callsIn_of_wp Try.func135 rfl trivial ?_ rfl
  simp only [Try.ntmps135, List.size_toArray, List.length_cons, List.length_nil, Nat.reduceAdd, Nat.reduceSub, Array.replicate_succ, Array.replicate_zero, List.push_toArray, List.append_toArray, List.nil_append, List.cons_append]
  gi_wp2_with ((try refine ⟨trivial, hdd _, ?_⟩); gi_at_call 136; refine hp.mono ?_; clear hp; rintro r W1 (⟨rfl, hJ1, _⟩ | ⟨rfl, q, hq, hx⟩))
  · go_end0
    exact ⟨⟨_, rfl⟩, .inl ⟨_, rfl, by simpa using hJ1⟩⟩
  · go_end0
    exact ⟨⟨_, rfl⟩, .inr ⟨q, hq, by simpa using hx⟩⟩
set_option maxHeartbeats 1000000 in
theorem nodes_in (n : Nat) (e : Ex) (w : World) :
    CallsIn Fence.wide n Try.prog 115 #[e.val] w fun r w' => r = .returned (.func (.func 135) #[] #[.pointer (some ⟨w.heap.size, 0, none⟩)]) ∧ w' = w.alloc (.cells e.cells 57) := by
  rw [val_eq, cells_eq]
  refine callsIn_of_wp Try.func115 rfl trivial ?_ rfl
  simp only [Try.ntmps115, List.size_toArray, List.length_cons, List.length_nil, Nat.reduceAdd, Nat.reduceSub, Array.replicate_succ, Array.replicate_zero, List.push_toArray, List.append_toArray, List.nil_append, List.cons_append]
  gi_wp2
  go_ret
  exact ⟨rfl, rfl⟩
theorem nodes_stops (n Bt n₀ lo hi : Nat) (hlo : n₀ ≤ lo) (e : Ex) (w : World) (hBt : Bt < w.heap.size) (hn₀ : n₀ ≤ w.heap.size) (hhi : hi ≤ w.heap.size)
    (hc : ∀ j, w.cell? ⟨Bt, j, none⟩ = e.cells[j]?) (hin : e.In n₀ w) :
    SeqStopsK Fence.wide n Try.prog 135 #[.pointer (some ⟨Bt, 0, none⟩)] (fun x : Int × Ex => #[Value.int .i64 x.1, x.2.val]) (Kp lo hi) (fun ys => ys = e.nodes 1) (fun pre => pre <+: e.nodes 1) (e.nodes 1).length w := fun l J Jx W hW hJ _ hY h0 =>
  nodes1_in n l n₀ lo hi Bt _ hlo J Jx hJ e hY W (fun j => (hW.cell (p := ⟨Bt, j, none⟩) hBt).trans (hc j)) (hin.below (hW.mono hn₀)) h0 (Nat.le_trans hhi hW.size)
end Go.Proofs.Ytokdaapmejccbaa
namespace Go.Proofs.Ytokdaapmejccbaa
open Go.RowKit Go.Shelf
open Ex.In (InL)
open Ex.nodes (nodesL)
attribute [local go_sem] Oper.semAt_some
/-- What lay below n, and every expression's box, are as they were. -/
structure Kt (n : Nat) (W W' : World) : Prop where
  size : W.heap.size ≤ W'.heap.size
  low : ∀ (k : Nat) (o : Obj), k < n → W.heap[k]? = some o → o.isCells = true → W'.heap[k]? = some o
  box : ∀ (k : Nat) (cs : Array Value) (fr : Nat × Nat), W.heap[k]? = some (Obj.cells cs 57 fr) → W'.heap[k]? = some (Obj.cells cs 57 fr)
theorem Kt.refl (n : Nat) (W : World) : Kt n W W := ⟨Nat.le_refl _, fun _ _ _ h _ => h, fun _ _ _ h => h⟩
theorem Kt.trans {n : Nat} {X Y Z : World} (h : Kt n X Y) (k : Kt n Y Z) : Kt n X Z :=
  ⟨Nat.le_trans h.size k.size, fun i o hi' ho hc => k.low i o hi' (h.low i o hi' ho hc) hc, fun i cs fr hi => k.box i cs fr (h.box i cs fr hi)⟩
theorem Kt.alloc (n : Nat) (W : World) (o : Obj) : Kt n W (W.alloc o) :=
  ⟨by simp, fun k o' _ h _ => (Below.heap_alloc W o k (Array.getElem?_eq_some_iff.1 h).1).trans h, fun k cs fr h => (Below.heap_alloc W o k (Array.getElem?_eq_some_iff.1 h).1).trans h⟩
theorem Kt.put {n : Nat} (W : World) (l : Nat) (o o' : Obj) (hl : W.heap[l]? = some o) (hc : o.isCells = false) : Kt n W (W.putObj l o') :=
  ⟨by simp, fun k o2 _ h h2 => by
    by_cases e : k = l
    · subst e; rw [hl] at h; cases h; rw [hc] at h2; cases h2
    · exact (World.putObj_heap_other (by omega)).trans h, fun k cs fr h => by
    by_cases e : k = l
    · subst e; rw [hl] at h; cases h; cases hc
    · exact (World.putObj_heap_other (by omega)).trans h⟩
theorem Kt.cell27 {n : Nat} {W W' : World} (h : Kt n W W') {b j : Nat} {cs : Array Value} {fr : Nat × Nat} {v : Value} (hb : W.heap[b]? = some (.cells cs 57 fr)) (hv : cs[j]? = some v) : W'.cell? ⟨b, j, none⟩ = some v := by
  unfold World.cell?
  rw [show W'.heap[(⟨b, j, none⟩ : Addr).block]? = _ from h.box b cs fr hb]
  exact hv
theorem Kt.cell {n : Nat} {W W' : World} (h : Kt n W W') {b o : Nat} {v : Value} (hb : b < n) (hc : W.cell? ⟨b, o, none⟩ = some v) : W'.cell? ⟨b, o, none⟩ = some v := by
  obtain ⟨ob, h1, h2⟩ := isCells_of_cell hc
  have h3 := h.low b ob hb h1 h2
  rw [← hc]
  unfold World.cell?
  rw [show W'.heap[(⟨b, o, none⟩ : Addr).block]? = some ob from h3, show W.heap[(⟨b, o, none⟩ : Addr).block]? = some ob from h1]
theorem Ex.In.kt {n : Nat} {A B : World} (h : Kt n A B) : ∀ {e : Ex}, Ex.In n A e → Ex.In n B e
  | .mk _ _ _ _ _ kids, hi => by
    rw [Ex.In] at hi ⊢
    exact ⟨hi.1, go h kids hi.2⟩
  where
  go {n : Nat} {A B : World} (h : Kt n A B) {a : Option Addr} : ∀ {i : Nat} (l : List Ex), InL n A a i l → InL n B a i l
    | _, [], _ => by rw [InL]; trivial
    | i, e :: r, hi => by
      rw [InL] at hi ⊢
      obtain ⟨⟨b, o, ha, hb, hc⟩, h1, h2⟩ := hi
      refine ⟨⟨b, o, ha, hb, fun j hj => ?_⟩, Ex.In.kt h h1, go h r h2⟩
      have h3 := hc j hj
      obtain ⟨v, hv⟩ : ∃ v, e.cells[j]? = some v := ⟨_, Array.getElem?_eq_getElem (by show j < 7; omega)⟩
      rw [hv] at h3 ⊢
      exact h.cell hb h3
theorem InL.kt {n : Nat} {A B : World} (h : Kt n A B) {a : Option Addr} : ∀ {i : Nat} (l : List Ex), InL n A a i l → InL n B a i l := Ex.In.kt.go h
set_option maxRecDepth 100000 in
set_option maxHeartbeats 1000000 in
theorem go_kt (l n₀ N B : Nat) (Pr : Int × Ex → Prop) (J Jx : List (Int × Ex) → World → Prop) (hJ : AbidesFrom B J)
    (hY : ∀ m pre (x : Int × Ex) W, J pre W → pre.length < N → Pr x → YieldAt Fence.wide m Try.prog l #[.int .i64 x.1, x.2.val] W fun e W' =>
      (e = .returned (.bool true) ∧ J (pre ++ [x]) W' ∧ Kt n₀ W W') ∨ (e = .returned (.bool false) ∧ Jx (pre ++ [x]) W')) :
    ∀ (s : Nat) (e : Ex), e.size ≤ s → ∀ (n : Nat) (d : Int) (pre : List (Int × Ex)) (W : World), e.In n₀ W → J pre W → (∀ y ∈ e.nodes d, Pr y) → pre.length + (e.nodes d).length ≤ N →
      CallsIn Fence.wide n Try.prog 136 #[e.val, .int .i64 d, .func (.yield l) #[] #[]] W fun r W' =>
        (r = .returned (.bool true) ∧ J (pre ++ e.nodes d) W' ∧ Kt n₀ W W') ∨ (r = .returned (.bool false) ∧ ∃ q, q <+: e.nodes d ∧ Jx (pre ++ q) W') := by
  intro s
  induction s with
  | zero =>
    intro e he
    cases e with
    | mk k S t a c kids => rw [Ex.size] at he; omega
  | succ s ih =>
    intro e he n d pre W hin hJp hPr hN
    have hdd : ∀ k : Nat, (Fence.wide.depth.isSome = true → 1 ≤ k) := fun k h => by cases h
    have hJ1 := abides_alloc hJ (.cells e.cells 57) hJp
    have hlen : pre.length < N := by rw [nodes_eq] at hN; simp at hN; omega
    have hyy := YieldAt.mono (hY (n - 1) pre (d, e) _ hJ1 hlen (hPr _ (by rw [nodes_eq]; exact List.mem_cons_self))) (R' := fun r W2 => (r = .returned (.bool true) ∧ J (pre ++ [(d, e)]) W2 ∧ Kt n₀ W W2 ∧ W2.cell? ⟨W.heap.size, 6, none⟩ = some (.slice e.a e.kids.length e.c) ∧ e.In n₀ W2) ∨ (r = .returned (.bool false) ∧ Jx (pre ++ [(d, e)]) W2))
      fun r W2 h => h.elim (fun ⟨h1, h2, h3⟩ => .inl ⟨h1, h2, (Kt.alloc n₀ W _).trans h3, h3.cell27 (World.alloc_heap_new W _) rfl, (hin.kt (Kt.alloc n₀ W _)).kt h3⟩) .inr
    obtain ⟨fn, tmps, assign, body, hy, hR⟩ := hyy
    rw [cells_eq, val_eq] at hy
    rw [val_eq]
    refine callsIn_of_wp Try.func136 rfl trivial ?_ rfl
    simp only [Try.ntmps136, List.size_toArray, List.length_cons, List.length_nil, Nat.reduceAdd, Nat.reduceSub, Array.replicate_succ, Array.replicate_zero, List.push_toArray, List.append_toArray, List.nil_append, List.cons_append]
    gi_wp2_with (first
      | ((try refine ⟨hdd _, ?_⟩); refine hR.mono ?_; clear hR hy; rintro r W2 (⟨rfl, hJ2, hk2, hc6, hin2⟩ | ⟨rfl, hx2⟩)))
    · have hlen2 := hin2.len
      have hin3 := hin2
      gi_loopw [17] (fun p wr => ∃ i : Nat, p = .int .i64 i ∧ i ≤ e.kids.length ∧ J (pre ++ (d, e) :: nodesL (wrap64 (d + 1)) (e.kids.take i)) wr ∧ Kt n₀ W wr ∧ e.In n₀ wr) (fun p _ => e.kids.length - (intOf p).toNat)
      case atStart => exact ⟨0, rfl, Nat.zero_le _, by simpa [nodesL] using hJ2, hk2, hin2⟩
      case round =>
        clear hin2 hJ2 hk2 hc6
        obtain ⟨i, rfl, hi', hJ3, hk3, hin4⟩ := hrel
        by_cases hend : i = e.kids.length
        · subst hend
          gi_wp2
          go_ret
          refine .inl ⟨rfl, ?_, hk3⟩
          rw [nodes_eq]
          simpa using hJ3
        · have hlt : i < e.kids.length := by omega
          obtain ⟨x, hx⟩ : ∃ x, e.kids[i]? = some x := ⟨_, List.getElem?_eq_getElem hlt⟩
          obtain ⟨⟨b, o, ha, hb, hc⟩, hinx⟩ := hin4.kid hx
          have c0 := hc 0 (by omega)
          have c1 := hc 1 (by omega)
          have c2 := hc 2 (by omega)
          have c3 := hc 3 (by omega)
          have c4 := hc 4 (by omega)
          have c5 := hc 5 (by omega)
          have c6 := hc 6 (by omega)
          rw [cells_eq] at c0 c1 c2 c3 c4 c5 c6
          simp only [List.getElem?_toArray, List.getElem?_cons_zero, List.getElem?_cons_succ, Nat.add_zero] at c0 c1 c2 c3 c4 c5 c6
          clear hc
          rw [ha]
          have hJ4 := abides_alloc hJ (.cells x.cells 57) hJ3
          have hinx4 := hinx.kt (Kt.alloc n₀ wr (.cells x.cells 57))
          have hszN : (pre ++ (d, e) :: nodesL (wrap64 (d + 1)) (e.kids.take i)).length + (x.nodes (wrap64 (d + 1))).length ≤ N := by
            rw [nodes_eq, nodesL_split _ _ _ _ hx] at hN
            simp at hN ⊢
            omega
          have hsx : x.size ≤ s := by
            have := size_kid (List.mem_of_getElem? hx); omega
          have ihx := ih x hsx (n - 1) (wrap64 (d + 1)) _ _ hinx4 hJ4 (fun y hy => hPr y (by rw [nodes_eq, nodesL_split _ _ _ _ hx]; simp [hy])) hszN
          rw [cells_eq, val_eq] at ihx
          have HK : Hid (∀ W', Kt n₀ (wr.alloc (.cells x.cells 57)) W' → Kt n₀ W W' ∧ e.In n₀ W') := fun W' h => ⟨hk3.trans ((Kt.alloc n₀ wr _).trans h), hin4.kt ((Kt.alloc n₀ wr _).trans h)⟩
          clear hJ4 hinx4 hszN hsx hJ3 hin4 hinx ih hlen hY hJ hin hJp hN hPr
          gi_wp2_with ((try refine ⟨trivial, hdd _, ?_⟩); gi_at_call 136; refine ihx.mono ?_; clear ihx; rintro r W3 (⟨rfl, hJ5, hk5⟩ | ⟨rfl, q, hq, hx5⟩))
          · go_roundw
            case rel =>
              obtain ⟨h1, h2⟩ := HK.out _ hk5
              refine ⟨i + 1, rfl, by omega, ?_, h1, h2⟩
              rw [nodesL_take _ _ _ _ hx]
              simpa using hJ5
            case measure => (simp only [intOf]; omega)
          · go_ret
            refine .inr ⟨rfl, (d, e) :: (nodesL (wrap64 (d + 1)) (e.kids.take i) ++ q), ?_, by simpa using hx5⟩
            obtain ⟨z, hz⟩ := hq
            rw [nodes_eq, nodesL_split _ _ _ _ hx, ← hz]
            exact ⟨z ++ nodesL (wrap64 (d + 1)) (e.kids.drop (i + 1)), by simp⟩
    · go_ret
      exact .inr ⟨rfl, [(d, e)], by rw [nodes_eq]; exact ⟨_, rfl⟩, hx2⟩

/-- A node whose text is no longer than memory. -/
abbrev Nod : Type := { x : Int × Ex // x.2.t.size ≤ 140737488355328 }
theorem nod_list : ∀ (l : List (Int × Ex)), (∀ y ∈ l, y.2.t.size ≤ 140737488355328) → ∃ l' : List Nod, l'.map (·.1) = l
  | [], _ => ⟨[], rfl⟩
  | x :: r, h => by
    obtain ⟨r', hr⟩ := nod_list r fun y hy => h y (List.mem_cons_of_mem _ hy)
    exact ⟨⟨x, h x List.mem_cons_self⟩ :: r', by rw [List.map_cons, hr]⟩
theorem nod_inj : ∀ (a b : List Nod), a.map (·.1) = b.map (·.1) → a = b
  | [], [], _ => rfl
  | [], _ :: _, h => by simp at h
  | _ :: _, [], h => by simp at h
  | x :: a, y :: b, h => by
    simp only [List.map_cons, List.cons.injEq] at h
    rw [Subtype.ext h.1, nod_inj a b h.2]
set_option maxRecDepth 100000 in
set_option maxHeartbeats 1000000 in
theorem nodes1_kt (n l n₀ Bt B : Nat) (J Jx : List Nod → World → Prop) (hJ : AbidesFrom B J) (e : Ex) (ht : ∀ y ∈ e.nodes 1, y.2.t.size ≤ 140737488355328)
    (hY : ∀ pre (x : Nod) W, J pre W → pre.length < (e.nodes 1).length → YieldAt Fence.wide (n - 1) Try.prog l #[.int .i64 x.1.1, x.1.2.val] W fun e W' =>
      (e = .returned (.bool true) ∧ J (pre ++ [x]) W' ∧ Kt n₀ W W') ∨ (e = .returned (.bool false) ∧ Jx (pre ++ [x]) W'))
    (W : World) (hc : ∀ j, W.cell? ⟨Bt, j, none⟩ = e.cells[j]?) (hin : e.In n₀ W) (h0 : J [] W) :
    CallsIn Fence.wide n Try.prog 135 #[.func (.yield l) #[] #[], .pointer (some ⟨Bt, 0, none⟩)] W fun r W' => (∃ v, r = .returned v) ∧
      ((∃ ys : List Nod, ys.map (·.1) = e.nodes 1 ∧ J ys W') ∨ (∃ pre : List Nod, pre.map (·.1) <+: e.nodes 1 ∧ Jx pre W')) := by
  have hdd : ∀ k : Nat, (Fence.wide.depth.isSome = true → 1 ≤ k) := fun k h => by cases h
  have hp := go_kt l n₀ (e.nodes 1).length B (fun y => y.2.t.size ≤ 140737488355328) (fun l W => ∃ l' : List Nod, l'.map (·.1) = l ∧ J l' W) (fun l W => ∃ l' : List Nod, l'.map (·.1) = l ∧ Jx l' W)
    (fun s X Y row hs hg hr => by obtain ⟨l', h1, h2⟩ := hs; exact ⟨l', h1, hJ l' X Y row h2 hg hr⟩)
    (fun m pre x W hj hl hx => by
      obtain ⟨l', h1, h2⟩ := hj
      refine YieldAt_any rfl m ((hY l' ⟨x, hx⟩ W h2 (by rw [← h1, List.length_map] at hl; exact hl)).mono fun r W' h => ?_)
      rcases h with ⟨a, b, c⟩ | ⟨a, b⟩
      · exact .inl ⟨a, ⟨l' ++ [⟨x, hx⟩], by rw [List.map_append, h1]; rfl, b⟩, c⟩
      · exact .inr ⟨a, ⟨l' ++ [⟨x, hx⟩], by rw [List.map_append, h1]; rfl, b⟩⟩)
    e.size e (Nat.le_refl _) (n - 1) 1 [] W hin ⟨[], rfl, h0⟩ ht (by simp)
  rw [val_eq] at hp
  rw [cells_eq] at hc
  refine callsIn_of_wp Try.func135 rfl trivial ?_ rfl
  simp only [Try.ntmps135, List.size_toArray, List.length_cons, List.length_nil, Nat.reduceAdd, Nat.reduceSub, Array.replicate_succ, Array.replicate_zero, List.push_toArray, List.append_toArray, List.nil_append, List.cons_append]
  gi_wp2_with ((try refine ⟨trivial, hdd _, ?_⟩); gi_at_call 136; refine hp.mono ?_; clear hp; rintro r W1 (⟨rfl, hJ1, _⟩ | ⟨rfl, q, hq, hx⟩))
  · go_end0
    obtain ⟨l', h1, h2⟩ := hJ1
    exact ⟨⟨_, rfl⟩, .inl ⟨l', by simpa using h1, h2⟩⟩
  · go_end0
    obtain ⟨l', h1, h2⟩ := hx
    exact ⟨⟨_, rfl⟩, .inr ⟨l', by rw [h1]; simpa using hq, h2⟩⟩
theorem stops_kt (n Bt n₀ : Nat) (e : Ex) (w : World) (hBt : Bt < w.heap.size) (hn₀ : n₀ ≤ w.heap.size) (ht : ∀ y ∈ e.nodes 1, y.2.t.size ≤ 140737488355328)
    (hc : ∀ j, w.cell? ⟨Bt, j, none⟩ = e.cells[j]?) (hin : e.In n₀ w) :
    SeqStopsK Fence.wide n Try.prog 135 #[.pointer (some ⟨Bt, 0, none⟩)] (fun x : Nod => #[Value.int .i64 x.1.1, x.1.2.val]) (Kt n₀) (fun ys => ys.map (·.1) = e.nodes 1) (fun pre => pre.map (·.1) <+: e.nodes 1) (e.nodes 1).length w := fun l J Jx W hW hJ _ hY h0 =>
  nodes1_kt n l n₀ Bt _ J Jx hJ e ht hY W (fun j => (hW.cell (p := ⟨Bt, j, none⟩) hBt).trans (hc j)) (hin.below (hW.mono hn₀)) h0
end Go.Proofs.Ytokdaapmejccbaa
