import Derived.Test.YtbeohmcmphebhaaCome
import Derived.Laws.MakeOwn
namespace Go.Proofs.Ytbeohmcmphebhaa
open Go.RowKit
set_option linter.unusedVariables false
theorem Try.info4 : (Try.prog.info? 4).map (fun i => (i.zero, i.size, i.bytes)) = some (some (.bool false), 1, 1) := by kernel_rfl
theorem made_bool (n : Nat) : madeCells (Value.bool false).cells (n * 1) = mcs (List.replicate n false) := by
  unfold madeCells mcs
  refine Array.ext (by simp) fun i h1 h2 => ?_
  simp [Value.cells, Nat.mod_one]
theorem make_marks (n : Nat) (hn : n ≤ 10) (w : World) : (Instr.makeSlice 31 (.int .i64 (n : Int)) (.int .i64 (n : Int))).run Try.prog w = .ok (.slice (some ⟨w.heap.size, 0, none⟩) n n) (w.alloc (.cells (mcs (List.replicate n false)) 4)) := by
  obtain ⟨i0, hi, hz⟩ : ∃ i0, Try.prog.info? 4 = some i0 ∧ (i0.zero, i0.size, i0.bytes) = (some (.bool false), 1, 1) := by
    simpa [Option.map_eq_some_iff] using Try.info4
  simp only [Prod.mk.injEq] at hz
  obtain ⟨hz0, hz1, hz2⟩ := hz
  have := run_makeSlice (P := Try.prog) w 31 4 i0 (.bool false) Try.underlying31 hi hz0 .i64 .i64 n n (by omega) (by omega) (by rw [hz1]; simp; omega) (by rw [hz2]; omega) (by omega)
  rw [hz1] at this
  simp only [Int.toNat_natCast] at this
  rw [made_bool] at this
  exact this
/-- What Nodes tells. -/
def nodesR (l : List (ByteArray × Ex)) : Int := if gcheck l = 0 then gcount l else 0
set_option maxRecDepth 20000 in
set_option maxHeartbeats 4000000 in
theorem gnodes_any (g : Gr) (w : World) (hin : g.In w.heap.size w) :
    Calls Try.prog 11 #[g.val] w fun r W' => r = .returned (.tuple #[.int .i64 (nodesR g.rules), .int .i64 (gcheck g.rules)]) ∧ Below w.heap.size w W' := by
  have hA := (Below.refl w.heap.size w).alloc (Nat.le_refl _) (.cells #[.slice g.a g.rules.length g.c] 24)
  have bG := BoxN.new w 24 #[.slice g.a g.rules.length g.c]
  have hck := gcheck_any g _ (hin.grow hA)
  have HN : Hid (∀ {W}, Below (w.alloc (.cells #[.slice g.a g.rules.length g.c] 24)).heap.size (w.alloc (.cells #[.slice g.a g.rules.length g.c] 24)) W → Below w.heap.size w W ∧ W.cell? ⟨w.heap.size, 0, none⟩ = some (.slice g.a g.rules.length g.c)) := fun h => ⟨hA.trans (h.mono hA.size), (bG.below h (by simp)).cell 0⟩
  have HC : Hid (∀ W, Below w.heap.size w W → gcheck g.rules = 0 → Calls Try.prog 20 #[g.val] W fun r W' => r = .returned (.int .i64 (gcount g.rules)) ∧ Below W.heap.size W W') := fun W h h0 => countNodes_any g W (hin.grow h) (gcheck_ok h0).most
  rw [gval_eq] at hck HC ⊢
  unfold nodesR
  generalize gcheck g.rules = C at *
  clear hA bG
  by_cases h0 : C = 0
  · subst h0
    rw [if_pos rfl]
    have hcn : ∀ W, Below w.heap.size w W → _ := fun W h => HC.out W h rfl
    go_enter Try.func11, Try.ntmps11
    go_wp2_with (first
      | (go_at_call 7; refine hck.mono ?_; rintro e W1 ⟨rfl, hb1⟩; have k1 := HN.out hb1; have c1 := k1.2; clear hb1 hck)
      | (go_at_call 20; refine (hcn _ k1.1).mono ?_; rintro e W2 ⟨rfl, hb2⟩))
    refine bodyPost_ret (by simp [results, Try.results11, go_sem]) rfl ⟨rfl, k1.1.trans (hb2.mono k1.1.size)⟩
  · rw [if_neg h0]
    have g1 : (C != 0) = true := by simpa using h0
    go_enter Try.func11, Try.ntmps11
    go_wp2_with (go_at_call 7; refine hck.mono ?_; rintro e W1 ⟨rfl, hb1⟩; have k1 := HN.out hb1; clear hb1 hck)
    refine bodyPost_ret (by simp [results, Try.results11, go_sem]) rfl ⟨rfl, k1.1⟩
/-- What Reach answers. -/
def ReachR (all : List (ByteArray × Ex)) (n : Nat) (W : World) (v : Value) : Prop :=
  if gcheck all = 0 then ∃ B m, v = .slice (some ⟨B, 0, none⟩) all.length all.length ∧ n ≤ B ∧ Mk W B m ∧ IsR (nxt all) all.length m else v = .slice none 0 0
set_option maxRecDepth 20000 in
set_option maxHeartbeats 4000000 in
theorem reach_any (g : Gr) (w : World) (hin : g.In w.heap.size w) :
    Calls Try.prog 12 #[g.val] w fun r W' => ∃ v, r = .returned (.tuple #[v, .int .i64 (gcheck g.rules)]) ∧ ReachR g.rules w.heap.size W' v ∧ Below w.heap.size w W' := by
  have hA := (Below.refl w.heap.size w).alloc (Nat.le_refl _) (.cells #[.slice g.a g.rules.length g.c] 24)
  have bG := BoxN.new w 24 #[.slice g.a g.rules.length g.c]
  have hck := gcheck_any g _ (hin.grow hA)
  have HN : Hid (∀ {W}, Below (w.alloc (.cells #[.slice g.a g.rules.length g.c] 24)).heap.size (w.alloc (.cells #[.slice g.a g.rules.length g.c] 24)) W → Below w.heap.size w W ∧ BoxN W w.heap.size 24 #[.slice g.a g.rules.length g.c]) := fun h => ⟨hA.trans (h.mono hA.size), bG.below h (by simp)⟩
  have HI : Hid (g.In w.heap.size w) := hin
  have HG : Hid (gcheck g.rules = 0 → GOk g.rules) := gcheck_ok
  rw [gval_eq] at hck ⊢
  unfold ReachR
  generalize gcheck g.rules = C at *
  clear hA bG hin
  by_cases h0 : C = 0
  · subst h0
    simp only [↓reduceIte]
    have hok := HG.out rfl
    have h10 := hok.most
    have h1 := hok.pos
    have hmk : ∀ W, _ := fun W => make_marks g.rules.length h10 W
    have HCT : Hid (∀ W, Below w.heap.size w W → ∀ B, W.heap.size ≤ B → ∀ W', Below W.heap.size W W' → Mk W' B (List.replicate g.rules.length false) → Calls Try.prog 26 #[.agg #[.slice g.a g.rules.length g.c], .int .i64 0, .slice (some ⟨B, 0, none⟩) g.rules.length g.rules.length] W' fun e W'' => e = .returned (.tuple #[]) ∧ ∃ m', IsR (nxt g.rules) g.rules.length m' ∧ Mk W'' B m' ∧ W'.grownBy W'' (some B)) := fun W h B hB W' h' hM => by
      have := comeTo_any g hok B W.heap.size hB g.rules.length (List.replicate g.rules.length false) 0 W' (by rw [cntF_rep]; omega) (by simp) hok.pos ((HI.out.grow h).below h') hM
      rw [gval_eq] at this
      exact this.mono fun e W'' ⟨h1, m', h2, h3, h4⟩ => ⟨h1, m', h2.isR, h3, h4⟩
    go_enter Try.func12, Try.ntmps12
    go_wp2_with (first
      | (go_at_call 7; refine hck.mono ?_; rintro e W1 ⟨rfl, hb1⟩; have k1 := HN.out hb1; have c1 := k1.2.cell 0; simp only [List.getElem?_toArray, List.getElem?_cons_zero] at c1; have c2 : (W1.alloc (.cells (mcs (List.replicate g.rules.length false)) 4)).cell? ⟨w.heap.size, 0, none⟩ = some (.slice g.a g.rules.length g.c) := (k1.2.alloc _).cell 0; have hct := HCT.out W1 k1.1 W1.heap.size (Nat.le_refl _) (W1.alloc (.cells (mcs (List.replicate g.rules.length false)) 4)) ((Below.refl _ W1).alloc (Nat.le_refl _) _) (BoxN.new W1 4 _); clear hb1 hck)
      | (go_at_call 26; refine hct.mono ?_; rintro e W2 ⟨rfl, m', hR, hM, hg⟩))
    have hg2 : Below W1.heap.size W1 W2 := ((Below.refl _ W1).alloc (Nat.le_refl _) _).trans ⟨hg.os, hg.tape, hg.output, hg.size, fun k hk => hg.block k (by simp; omega) (fun e => by cases e; omega)⟩
    refine bodyPost_ret (by simp [results, Try.results12, go_sem]) rfl ⟨_, rfl, ⟨_, _, rfl, k1.1.size, hM, hR⟩, k1.1.trans (hg2.mono k1.1.size)⟩
  · simp only [h0, ↓reduceIte]
    have g1 : (C != 0) = true := by simpa using h0
    go_enter Try.func12, Try.ntmps12
    go_wp2_with (go_at_call 7; refine hck.mono ?_; rintro e W1 ⟨rfl, hb1⟩; have k1 := HN.out hb1; clear hb1 hck)
    refine bodyPost_ret (by simp [results, Try.results12, go_sem]) rfl ⟨_, rfl, rfl, k1.1⟩
end Go.Proofs.Ytbeohmcmphebhaa
