import Derived.Test.YtokdaapmejccbaaIter
namespace Go.Proofs.Ytokdaapmejccbaa
open Go.RowKit Go.Shelf
open Ex.nodes (nodesL)
attribute [local go_sem] Oper.semAt_some
theorem abides_alloc {β : Type} {B : Nat} {J : β → World → Prop} (h : AbidesFrom B J) {s : β} {W : World} (o : Obj) (hs : J s W) : J s (W.alloc o) :=
  h s W _ none hs (World.grownBy_alloc W o none) (fun r e => by cases e)
theorem val_eq (e : Ex) : e.val = .agg #[.int .i64 e.k, .int .u64 (wd e.S 0), .int .u64 (wd e.S 1), .int .u64 (wd e.S 2), .int .u64 (wd e.S 3), .string e.t, .slice e.a e.kids.length e.c] := rfl
theorem cells_eq (e : Ex) : e.cells = #[.int .i64 e.k, .int .u64 (wd e.S 0), .int .u64 (wd e.S 1), .int .u64 (wd e.S 2), .int .u64 (wd e.S 3), .string e.t, .slice e.a e.kids.length e.c] := rfl
set_option maxRecDepth 100000 in
set_option maxHeartbeats 1000000 in
theorem go_in (l n₀ lo hi N B : Nat) (hlo : n₀ ≤ lo) (J Jx : List (Int × Ex) → World → Prop) (hJ : AbidesFrom B J)
    (hY : ∀ m pre (x : Int × Ex) W, J pre W → pre.length < N → YieldAt Fence.wide m Try.prog l #[.int .i64 x.1, x.2.val] W fun e W' =>
      (e = .returned (.bool true) ∧ J (pre ++ [x]) W' ∧ Kp lo hi W W') ∨ (e = .returned (.bool false) ∧ Jx (pre ++ [x]) W')) :
    ∀ (s : Nat) (e : Ex), e.size ≤ s → ∀ (n : Nat) (d : Int) (pre : List (Int × Ex)) (W : World), e.In n₀ W → J pre W → hi ≤ W.heap.size → pre.length + (e.nodes d).length ≤ N →
      CallsIn Fence.wide n Try.prog 136 #[e.val, .int .i64 d, .func (.yield l) #[] #[]] W fun r W' =>
        (r = .returned (.bool true) ∧ J (pre ++ e.nodes d) W' ∧ Kp lo hi W W') ∨ (r = .returned (.bool false) ∧ ∃ q, q <+: e.nodes d ∧ Jx (pre ++ q) W') := by
  intro s
  induction s with
  | zero =>
    intro e he
    cases e with
    | mk k S t a c kids => rw [Ex.size] at he; omega
  | succ s ih =>
    intro e he n d pre W hin hJp hhi hN
    have hdd : ∀ k : Nat, (Fence.wide.depth.isSome = true → 1 ≤ k) := fun k h => by cases h
    have hJ1 := abides_alloc hJ (.cells e.cells 57) hJp
    have hlen : pre.length < N := by rw [nodes_eq] at hN; simp at hN; omega
    have hyy := YieldAt.mono (hY (n - 1) pre (d, e) _ hJ1 hlen) (R' := fun r W2 => (r = .returned (.bool true) ∧ J (pre ++ [(d, e)]) W2 ∧ Kp lo hi W W2 ∧ W2.cell? ⟨W.heap.size, 6, none⟩ = some (.slice e.a e.kids.length e.c) ∧ e.In n₀ W2) ∨ (r = .returned (.bool false) ∧ Jx (pre ++ [(d, e)]) W2))
      fun r W2 h => h.elim (fun ⟨h1, h2, h3⟩ => .inl ⟨h1, h2, (Kp.alloc lo hi W _).trans h3, h3.cell (.inr hhi) (by
        unfold World.cell?; rw [World.alloc_heap_new]; rfl), (hin.kp hlo (Kp.alloc lo hi W _)).kp hlo h3⟩) .inr
    obtain ⟨fn, tmps, assign, body, hy, hR⟩ := hyy
    rw [cells_eq, val_eq] at hy
    rw [val_eq]
    refine callsIn_of_wp Try.func136 rfl trivial ?_ rfl
    simp only [Try.ntmps136, List.size_toArray, List.length_cons, List.length_nil, Nat.reduceAdd, Nat.reduceSub, Array.replicate_succ, Array.replicate_zero, List.push_toArray, List.append_toArray, List.nil_append, List.cons_append]
    gi_wp2_with (first
      | ((try refine ⟨hdd _, ?_⟩); refine hR.mono ?_; clear hR hy; rintro r W2 (⟨rfl, hJ2, hk2, hc6, hin2⟩ | ⟨rfl, hx2⟩)))
    · have hlen2 := hin2.len
      have hin3 := hin2
      gi_loopw [17] (fun p wr => ∃ i : Nat, p = .int .i64 i ∧ i ≤ e.kids.length ∧ J (pre ++ (d, e) :: nodesL (wrap64 (d + 1)) (e.kids.take i)) wr ∧ Kp lo hi W wr ∧ e.In n₀ wr) (fun p _ => e.kids.length - (intOf p).toNat)
      case atStart => exact ⟨0, rfl, Nat.zero_le _, by simpa [nodesL] using hJ2, hk2, hin2⟩
      case round =>
        clear hin2 hJ2 hk2 hc6
        obtain ⟨i, rfl, hi', hJ3, hk3, hin4⟩ := hrel
        by_cases hend : i = e.kids.length
        · subst hend
          gi_wp2
          go_ret
          refine .inl ⟨rfl, ?_, hk3⟩
          rw [nodes_eq]
          simpa using hJ3
        · have hlt : i < e.kids.length := by omega
          obtain ⟨x, hx⟩ : ∃ x, e.kids[i]? = some x := ⟨_, List.getElem?_eq_getElem hlt⟩
          obtain ⟨⟨b, o, ha, hb, hc⟩, hinx⟩ := hin4.kid hx
          have c0 := hc 0 (by omega)
          have c1 := hc 1 (by omega)
          have c2 := hc 2 (by omega)
          have c3 := hc 3 (by omega)
          have c4 := hc 4 (by omega)
          have c5 := hc 5 (by omega)
          have c6 := hc 6 (by omega)
          rw [cells_eq] at c0 c1 c2 c3 c4 c5 c6
          simp only [List.getElem?_toArray, List.getElem?_cons_zero, List.getElem?_cons_succ, Nat.add_zero] at c0 c1 c2 c3 c4 c5 c6
          clear hc
          rw [ha]
          have hJ4 := abides_alloc hJ (.cells x.cells 57) hJ3
          have hinx4 := hinx.kp hlo (Kp.alloc lo hi wr (.cells x.cells 57))
          have hszN : (pre ++ (d, e) :: nodesL (wrap64 (d + 1)) (e.kids.take i)).length + (x.nodes (wrap64 (d + 1))).length ≤ N := by
            rw [nodes_eq, nodesL_split _ _ _ _ hx] at hN
            simp at hN ⊢
            omega
          have hsx : x.size ≤ s := by
            have := size_kid (List.mem_of_getElem? hx); omega
          have ihx := ih x hsx (n - 1) (wrap64 (d + 1)) _ _ hinx4 hJ4 (by have := hk3.size; simp; omega) hszN
          rw [cells_eq, val_eq] at ihx
          have HK : Hid (∀ W', Kp lo hi (wr.alloc (.cells x.cells 57)) W' → Kp lo hi W W' ∧ e.In n₀ W') := fun W' h => ⟨hk3.trans ((Kp.alloc lo hi wr _).trans h), hin4.kp hlo ((Kp.alloc lo hi wr _).trans h)⟩
          clear hJ4 hinx4 hszN hsx hJ3 hin4 hinx ih hlen hY hJ hin hJp hN
          gi_wp2_with ((try refine ⟨trivial, hdd _, ?_⟩); gi_at_call 136; refine ihx.mono ?_; clear ihx; rintro r W3 (⟨rfl, hJ5, hk5⟩ | ⟨rfl, q, hq, hx5⟩))
          · go_roundw
            case rel =>
              obtain ⟨h1, h2⟩ := HK.out _ hk5
              refine ⟨i + 1, rfl, by omega, ?_, h1, h2⟩
              rw [nodesL_take _ _ _ _ hx]
              simpa using hJ5
            case measure => (simp only [intOf]; omega)
          · go_ret
            refine .inr ⟨rfl, (d, e) :: (nodesL (wrap64 (d + 1)) (e.kids.take i) ++ q), ?_, by simpa using hx5⟩
            obtain ⟨z, hz⟩ := hq
            rw [nodes_eq, nodesL_split _ _ _ _ hx, ← hz]
            exact ⟨z ++ nodesL (wrap64 (d + 1)) (e.kids.drop (i + 1)), by simp⟩
    · go_ret
      exact .inr ⟨rfl, [(d, e)], by rw [nodes_eq]; exact ⟨_, rfl⟩, hx2⟩

set_option maxRecDepth 100000 in
set_option maxHeartbeats 1000000 in
theorem nodes1_in (n l n₀ lo hi Bt B : Nat) (hlo : n₀ ≤ lo) (J Jx : List (Int × Ex) → World → Prop) (hJ : AbidesFrom B J) (e : Ex)
    (hY : ∀ pre (x : Int × Ex) W, J pre W → pre.length < (e.nodes 1).length → YieldAt Fence.wide (n - 1) Try.prog l #[.int .i64 x.1, x.2.val] W fun e W' =>
      (e = .returned (.bool true) ∧ J (pre ++ [x]) W' ∧ Kp lo hi W W') ∨ (e = .returned (.bool false) ∧ Jx (pre ++ [x]) W'))
    (W : World) (hc : ∀ j, W.cell? ⟨Bt, j, none⟩ = e.cells[j]?) (hin : e.In n₀ W) (h0 : J [] W) (hhi : hi ≤ W.heap.size) :
    CallsIn Fence.wide n Try.prog 135 #[.func (.yield l) #[] #[], .pointer (some ⟨Bt, 0, none⟩)] W fun r W' => (∃ v, r = .returned v) ∧
      ((∃ ys, ys = e.nodes 1 ∧ J ys W') ∨ (∃ pre, pre <+: e.nodes 1 ∧ Jx pre W')) := by
  have hdd : ∀ k : Nat, (Fence.wide.depth.isSome = true → 1 ≤ k) := fun k h => by cases h
  have hp := go_in l n₀ lo hi (e.nodes 1).length B hlo J Jx hJ (fun m pre x W hj hl => YieldAt_any rfl m (hY pre x W hj hl)) e.size e (Nat.le_refl _) (n - 1) 1 [] W hin h0 hhi (by simp)
  rw [val_eq] at hp
  rw [cells_eq] at hc
  refine callsIn_of_wp Try.func135 rfl trivial ?_ rfl
  simp only [Try.ntmps135, List.size_toArray, List.length_cons, List.length_nil, Nat.reduceAdd, Nat.reduceSub, Array.replicate_succ, Array.replicate_zero, List.push_toArray, List.append_toArray, List.nil_append, List.cons_append]
  gi_wp2_with ((try refine ⟨trivial, hdd _, ?_⟩); gi_at_call 136; refine hp.mono ?_; clear hp; rintro r W1 (⟨rfl, hJ1, _⟩ | ⟨rfl, q, hq, hx⟩))
  · go_end0
    exact ⟨⟨_, rfl⟩, .inl ⟨_, rfl, by simpa using hJ1⟩⟩
  · go_end0
    exact ⟨⟨_, rfl⟩, .inr ⟨q, hq, by simpa using hx⟩⟩
set_option maxHeartbeats 1000000 in
theorem nodes_in (n : Nat) (e : Ex) (w : World) :
    CallsIn Fence.wide n Try.prog 115 #[e.val] w fun r w' => r = .returned (.func (.func 135) #[] #[.pointer (some ⟨w.heap.size, 0, none⟩)]) ∧ w' = w.alloc (.cells e.cells 57) := by
  rw [val_eq, cells_eq]
  refine callsIn_of_wp Try.func115 rfl trivial ?_ rfl
  simp only [Try.ntmps115, List.size_toArray, List.length_cons, List.length_nil, Nat.reduceAdd, Nat.reduceSub, Array.replicate_succ, Array.replicate_zero, List.push_toArray, List.append_toArray, List.nil_append, List.cons_append]
  gi_wp2
  go_ret
  exact ⟨rfl, rfl⟩
theorem nodes_stops (n Bt n₀ lo hi : Nat) (hlo : n₀ ≤ lo) (e : Ex) (w : World) (hBt : Bt < w.heap.size) (hn₀ : n₀ ≤ w.heap.size) (hhi : hi ≤ w.heap.size)
    (hc : ∀ j, w.cell? ⟨Bt, j, none⟩ = e.cells[j]?) (hin : e.In n₀ w) :
    SeqStopsK Fence.wide n Try.prog 135 #[.pointer (some ⟨Bt, 0, none⟩)] (fun x : Int × Ex => #[Value.int .i64 x.1, x.2.val]) (Kp lo hi) (fun ys => ys = e.nodes 1) (fun pre => pre <+: e.nodes 1) (e.nodes 1).length w := fun l J Jx W hW hJ _ hY h0 =>
  nodes1_in n l n₀ lo hi Bt _ hlo J Jx hJ e hY W (fun j => (hW.cell (p := ⟨Bt, j, none⟩) hBt).trans (hc j)) (hin.below (hW.mono hn₀)) h0 (Nat.le_trans hhi hW.size)
end Go.Proofs.Ytokdaapmejccbaa
