import Derived.Test.YtbeohmcmphebhaaDoorXParH
import Derived.Defers
import Derived.Recover
import Derived.Test.YtbeohmcmphebhaaDoorXRPg
import Derived.Deep.MidRow
namespace Go.Proofs.YtbeohmcmphebhaaDoor
open Go.RowKit
set_option linter.unusedVariables false
theorem pre_does (T : ByteArray) (B : Nat) (hT : T.size ≤ 1000000) : ∀ n, Does T B 52 n (preP n) := by
  intro n
  induction n with
  | zero => intro t w _ h; omega
  | succ n ih =>
    intro t w ht hn hB
    rw [preP]
    split
    · rename_i h; exact pre_and T B n hT ih t w ht hn hB h
    split
    · rename_i h; exact pre_not T B n hT ih t w ht hn hB h
    · rename_i h1 h2
      have hg := preP_fine (T := T.data.toList) n
      exact pre_post T B n hT (prim_does T B n (preP n) hT (altP_fine hg) (alt_does T B n (preP n) hT hg (seq_does T B n (preP n) hT hg ih))) t w ht hn hB h1 h2
theorem altp_does (T : ByteArray) (B : Nat) (hT : T.size ≤ 1000000) (n : Nat) : Does T B 15 n (altP (preP n)) :=
  alt_does T B n (preP n) hT (preP_fine n) (seq_does T B n (preP n) hT (preP_fine n) (pre_does T B hT n))
theorem ta_yes (v : Value) (w : World) : (Instr.typeAssert (.iface 55 v) 20 55 true).run Tryd.prog w = .ok (.tuple #[v, .bool true]) w := by
  have h := Tryd.underlying55
  simp [Instr.typeAssert, run_underlying h, go_sem, Result.andThen]
theorem ta_no (w : World) : (Instr.typeAssert .nilIface 20 55 true).run Tryd.prog w = .ok (.tuple #[.agg #[.int .i64 0], .bool false]) w := by
  have h := Tryd.underlying55
  simp [Instr.typeAssert, run_underlying h, go_sem, Result.andThen]
theorem ntmps47 : Tryd.f23.ntmps = 12 := Tryd.ntmps23
set_option maxRecDepth 20000 in
theorem catch_panicking (p q : Nat) (a : Int) (w : World) (x y : Int) (hp : BoxN w p 3 #[.int .i64 x]) (hq : BoxN w q 28 #[.int .i64 y]) (hne : q ≠ p) :
    CallsD Tryd.prog 23 #[.pointer (some ⟨p, 0, none⟩), .pointer (some ⟨q, 0, none⟩)] (.panicking [{ v := .iface 55 (.agg #[.int .i64 a]), recovered := false }]) w fun e u' w' =>
      e = .returned (.tuple #[]) ∧ u' = .panicking [{ v := .iface 55 (.agg #[.int .i64 a]), recovered := true }] ∧ w' = ((w.alloc (.cells #[.int .i64 a] 55)).setCell ⟨p, 0, none⟩ (.int .i64 a)).setCell ⟨q, 0, none⟩ (.int .i64 4) := by
  have hA := (Below.refl w.heap.size w).alloc (Nat.le_refl _) (.cells #[.int .i64 a] 55)
  have hpc : (w.alloc (.cells #[.int .i64 a] 55)).cell? ⟨p, 0, none⟩ = some (.int .i64 x) := (hA.cell (p := ⟨p, 0, none⟩) hp.lt).trans (hp.cell 0)
  have hpf : (w.alloc (.cells #[.int .i64 a] 55)).frozen? ⟨p, 0, none⟩ = false := (hA.frozen (p := ⟨p, 0, none⟩) hp.lt).trans (hp.frozen 0)
  have hta := ta_yes (.agg #[.int .i64 a])
  have hpl : ¬ p = w.heap.size := by have := hp.lt; omega
  have hqc : ((w.alloc (.cells #[.int .i64 a] 55)).setCell ⟨p, 0, none⟩ (.int .i64 a)).cell? ⟨q, 0, none⟩ = some (.int .i64 y) := by
    have h1 : ((w.alloc (.cells #[.int .i64 a] 55)).setCell ⟨p, 0, none⟩ (.int .i64 a)).heap[q]? = (w.alloc (.cells #[.int .i64 a] 55)).heap[q]? := Below.heap_setCell _ _ _ _ hne
    rw [World.cell?_of_block (w := w.alloc (.cells #[.int .i64 a] 55)) (a := ⟨q, 0, none⟩) h1]
    exact (hA.cell (p := ⟨q, 0, none⟩) hq.lt).trans (hq.cell 0)
  have hqf : ((w.alloc (.cells #[.int .i64 a] 55)).setCell ⟨p, 0, none⟩ (.int .i64 a)).frozen? ⟨q, 0, none⟩ = false := by
    have h1 : ((w.alloc (.cells #[.int .i64 a] 55)).setCell ⟨p, 0, none⟩ (.int .i64 a)).heap[q]? = (w.alloc (.cells #[.int .i64 a] 55)).heap[q]? := Below.heap_setCell _ _ _ _ hne
    rw [World.frozen?_of_block (w := w.alloc (.cells #[.int .i64 a] 55)) (a := ⟨q, 0, none⟩) h1]
    exact (hA.frozen (p := ⟨q, 0, none⟩) hq.lt).trans (hq.frozen 0)
  clear hA
  refine callsD_of_wpS Tryd.func23 rfl fun c₀ cs hu => ?_
  simp only [Tryd.ntmps23, List.size_toArray, List.length_cons, List.length_nil, Nat.reduceAdd, Nat.reduceSub, Array.replicate_succ, Array.replicate_zero, List.push_toArray, List.append_toArray, List.nil_append, List.cons_append]
  apply wpS_seq
  apply wpS_region
  simp [wpOpsS, go_sem, recoverD, hu, Exit.thenS, hta]
  apply wpS_seq
  apply wpS_region
  simp [wpOpsS, go_sem, Exit.thenS]
  refine wpS_cond (t := true) (by simp [Act.eval]) ?_
  simp only [if_true]
  apply wpS_region
  simp [wpOpsS, go_sem, hpc, hpf, hqc, hqf, bodyPostS, results, Tryd.results23]
theorem catch_idle (p q : Value) (w : World) :
    CallsD Tryd.prog 23 #[p, q] .returning w fun e u' w' => e = .returned (.tuple #[]) ∧ u' = .returning ∧ w' = w.alloc (.cells #[.int .i64 0] 55) := by
  have hta := ta_no
  refine callsD_of_wpS Tryd.func23 rfl fun c₀ cs hu => ?_
  simp only [Tryd.ntmps23, List.size_toArray, List.length_cons, List.length_nil, Nat.reduceAdd, Nat.reduceSub, Array.replicate_succ, Array.replicate_zero, List.push_toArray, List.append_toArray, List.nil_append, List.cons_append]
  apply wpS_seq
  apply wpS_region
  simp [wpOpsS, go_sem, recoverD, hu, Exit.thenS, hta]
  apply wpS_seq
  apply wpS_region
  simp [wpOpsS, go_sem, Exit.thenS]
  refine wpS_cond (t := false) (by simp [Act.eval]) ?_
  simp only [Bool.false_eq_true, if_false]
  refine wpS_of_wp (wp_skip ?_)
  cases c₀
  simp_all [bodyPostS, results, Tryd.results23]
/-- What is kept, and what is laid, where a fault was caught. -/
def Caught (p q : Nat) (a : Int) (w w' : World) : Prop := BoxN w' p 3 #[.int .i64 a] ∧ BoxN w' q 28 #[.int .i64 4] ∧ (∀ B t cs, BoxN w B t cs → B ≠ p → B ≠ q → BoxN w' B t cs) ∧ (∀ n w0, n ≤ p → n ≤ q → n ≤ w.heap.size → Below n w0 w → Below n w0 w')
theorem setCell_box {W : World} {B : Nat} {t : TypeId} {v u : Value} (h : BoxN W B t #[v]) : BoxN (W.setCell ⟨B, 0, none⟩ u) B t #[u] := by
  have := setCell_eq_setRow W B 0 #[v] t (0, 0) u h
  rw [this]
  exact (grown_row (cs := #[u]) h).1
theorem box_other {W : World} {B B' : Nat} {t : TypeId} {cs : Array Value} (u : Value) (h : BoxN W B t cs) (hne : B ≠ B') : BoxN (W.setCell ⟨B', 0, none⟩ u) B t cs := (Below.heap_setCell W ⟨B', 0, none⟩ u B hne).trans h
theorem catch_box (p q : Nat) (a : Int) (w : World) (x y : Int) (hp : BoxN w p 3 #[.int .i64 x]) (hq : BoxN w q 28 #[.int .i64 y]) (hne : q ≠ p) :
    CallsD Tryd.prog 23 #[.pointer (some ⟨p, 0, none⟩), .pointer (some ⟨q, 0, none⟩)] (.panicking [{ v := .iface 55 (.agg #[.int .i64 a]), recovered := false }]) w fun e u' w' =>
      e = .returned (.tuple #[]) ∧ u' = .panicking [{ v := .iface 55 (.agg #[.int .i64 a]), recovered := true }] ∧ Caught p q a w w' := by
  refine (catch_panicking p q a w x y hp hq hne).mono ?_
  rintro e u' w' ⟨h1, h2, rfl⟩
  refine ⟨h1, h2, box_other _ (setCell_box (hp.alloc _)) (fun e => hne e.symm), setCell_box (box_other _ (hq.alloc _) hne), fun B t cs h hb1 hb2 => box_other _ (box_other _ (h.alloc _) hb1) hb2, fun n w0 h1 h2 h3 hb => ?_⟩
  exact ((hb.alloc h3 _).setCell h1 _).setCell h2 _
end Go.Proofs.YtbeohmcmphebhaaDoor
namespace Go.Proofs.YtbeohmcmphebhaaDoor
open Go.RowKit
set_option linter.unusedVariables false
/-! Parts of a box stored anew. -/
def setl : Array Value → Nat → List Value → Array Value
  | old, _, [] => old
  | old, o, v :: r => setl (old.setIfInBounds o v) (o + 1) r
theorem setl_size : ∀ (vs : List Value) (old : Array Value) (o : Nat), (setl old o vs).size = old.size
  | [], _, _ => rfl
  | v :: r, old, o => by rw [setl, setl_size r]; simp
theorem box_setCells {B : Nat} {t : TypeId} : ∀ (vs : List Value) (W : World) (o : Nat) (cs : Array Value), BoxN W B t cs → BoxN (W.setCells B o vs) B t (setl cs o vs) ∧ W.grownBy (W.setCells B o vs) (some B)
  | [], W, o, cs, h => ⟨h, gr_refl B W⟩
  | v :: r, W, o, cs, h => by
    rw [World.setCells, setl]
    obtain ⟨h1, h2⟩ := box_setCells r (W.setCell ⟨B, o, none⟩ v) (o + 1) _ (box_set h o v)
    exact ⟨h1, gr_trans (Go.Lib.grownBy_setCell W B o v) h2⟩
theorem box_there {W : World} {B : Nat} {t : TypeId} {cs : Array Value} (h : BoxN W B t cs) (o n : Nat) (hn : o + n ≤ cs.size) : W.there B o n := fun j hj => by
  refine ⟨?_, h.frozen _⟩
  rw [h.cell, Array.getElem?_eq_getElem (by omega)]; rfl
theorem wpList_store_part {ops : Array Oper} {rest : List Oper} {o : Oper} {a : Act} {w : World} {Q : Exit → Act → World → Prop} (hgd : o.guard = none) (ty : TypeId) (x y : Operand) (ho : o.op = .store ty x y)
    (B off : Nat) (cs : Array Value) (hx : a.eval x = .pointer (some ⟨B, off, none⟩)) (hy : a.eval y = .agg cs) (t : TypeId) (old : Array Value) (hb : BoxN w B t old) (hn : off + cs.size ≤ old.size)
    (hi : (Tryd.prog.info? ty).map (·.size) = some cs.size) (h1 : cs.all (·.oneCell') = true)
    (h : ∀ w', BoxN w' B t (setl old off cs.toList) → w.grownBy w' (some B) → wpList Tryd.prog ops Q rest (a.put o.dst undef) w') : wpList Tryd.prog ops Q (o :: rest) a w := by
  obtain ⟨h2, h3⟩ := box_setCells cs.toList w off old hb
  exact wpList_store_mid hgd ty x y ho B off cs hx hy (box_there hb off cs.size hn) hi h1 (h _ h2 h3)
theorem wpList_store_cell {ops : Array Oper} {rest : List Oper} {o : Oper} {a : Act} {w : World} {Q : Exit → Act → World → Prop} (hgd : o.guard = none) (ty : TypeId) (x y : Operand) (ho : o.op = .store ty x y)
    (B off : Nat) (v : Value) (hx : a.eval x = .pointer (some ⟨B, off, none⟩)) (hy : a.eval y = v) (t : TypeId) (old : Array Value) (hb : BoxN w B t old) (hn : off < old.size)
    (hi : (Tryd.prog.info? ty).map (·.size) = some 1) (h1 : v.oneCell' = true)
    (h : ∀ w', BoxN w' B t (old.setIfInBounds off v) → w.grownBy w' (some B) → wpList Tryd.prog ops Q rest (a.put o.dst undef) w') : wpList Tryd.prog ops Q (o :: rest) a w :=
  wpList_plain hgd fun _ hK => by
    have hth := box_there hb off 1 (by omega)
    have hc : v.cells = #[v] := by cases v <;> first | rfl | cases h1
    have hst := run_storeCells_cells (P := Tryd.prog) B off [v] 0 w (fun j hj => by simpa using (hth j (by simpa using hj)).1) (fun j hj => by simpa using (hth j (by simpa using hj)).2) (fun u hu => by simp at hu; subst hu; exact h1)
    have hrun : (storeVar ty ⟨B, off, none⟩ v).run Tryd.prog w = .ok () (w.setCells B off [v]) := by
      cases hq : Tryd.prog.info? ty with
      | none => simp [hq] at hi
      | some i =>
        have hs : i.size = 1 := by simpa [hq] using hi
        simp only [Nat.add_zero] at hst
        simp [storeVar, sizeOf, typeInfo, hq, hc, hs, hst]
    unfold Oper.wp execOp
    simp only [ho, hx, hy, Instr.storeAt, Instr.sureAddr, Sem.run_bind, Sem.run_pure, Result.andThen_ok, hrun]
    obtain ⟨h2, h3⟩ := box_setCells [v] w off old hb
    exact hK _ _ (h _ h2 h3)
theorem Tryd.size5 : (Tryd.prog.info? 5).map (·.size) = some 1 := by kernel_rfl
theorem Tryd.size9 : (Tryd.prog.info? 9).map (·.size) = some 1 := by kernel_rfl
end Go.Proofs.YtbeohmcmphebhaaDoor
