import Derived.Test.YtnfngbghnkiaiaaDoorXParH
import Derived.Defers
import Derived.Recover
namespace Go.Proofs.YtnfngbghnkiaiaaDoor
open Go.RowKit
set_option linter.unusedVariables false
theorem pre_does (T : ByteArray) (B : Nat) (hT : T.size ≤ 1000000) : ∀ n, Does T B 74 n (preP n) := by
  intro n
  induction n with
  | zero => intro t w _ h; omega
  | succ n ih =>
    intro t w ht hn hB
    rw [preP]
    split
    · rename_i h; exact pre_and T B n hT ih t w ht hn hB h
    split
    · rename_i h; exact pre_not T B n hT ih t w ht hn hB h
    · rename_i h1 h2
      have hg := preP_fine (T := T.data.toList) n
      exact pre_post T B n hT (prim_does T B n (preP n) hT (altP_fine hg) (alt_does T B n (preP n) hT hg (seq_does T B n (preP n) hT hg ih))) t w ht hn hB h1 h2
theorem altp_does (T : ByteArray) (B : Nat) (hT : T.size ≤ 1000000) (n : Nat) : Does T B 23 n (altP (preP n)) :=
  alt_does T B n (preP n) hT (preP_fine n) (seq_does T B n (preP n) hT (preP_fine n) (pre_does T B hT n))
theorem ta_yes (v : Value) (w : World) : (Instr.typeAssert (.iface 50 v) 20 50 true).run Tryd.prog w = .ok (.tuple #[v, .bool true]) w := by
  have h := Tryd.underlying50
  simp [Instr.typeAssert, run_underlying h, go_sem, Result.andThen]
theorem ta_no (w : World) : (Instr.typeAssert .nilIface 20 50 true).run Tryd.prog w = .ok (.tuple #[.agg #[.int .i64 0], .bool false]) w := by
  have h := Tryd.underlying50
  simp [Instr.typeAssert, run_underlying h, go_sem, Result.andThen]
theorem ntmps21 : Tryd.f21.ntmps = 12 := Tryd.ntmps21
set_option maxRecDepth 20000 in
theorem catch_panicking (p q : Nat) (a : Int) (w : World) (x y : Int) (hp : BoxN w p 3 #[.int .i64 x]) (hq : BoxN w q 28 #[.int .i64 y]) (hne : q ≠ p) :
    CallsD Tryd.prog 21 #[.pointer (some ⟨p, 0, none⟩), .pointer (some ⟨q, 0, none⟩)] (.panicking [{ v := .iface 50 (.agg #[.int .i64 a]), recovered := false }]) w fun e u' w' =>
      e = .returned (.tuple #[]) ∧ u' = .panicking [{ v := .iface 50 (.agg #[.int .i64 a]), recovered := true }] ∧ w' = ((w.alloc (.cells #[.int .i64 a] 50)).setCell ⟨p, 0, none⟩ (.int .i64 a)).setCell ⟨q, 0, none⟩ (.int .i64 4) := by
  have hA := (Below.refl w.heap.size w).alloc (Nat.le_refl _) (.cells #[.int .i64 a] 50)
  have hpc : (w.alloc (.cells #[.int .i64 a] 50)).cell? ⟨p, 0, none⟩ = some (.int .i64 x) := (hA.cell (p := ⟨p, 0, none⟩) hp.lt).trans (hp.cell 0)
  have hpf : (w.alloc (.cells #[.int .i64 a] 50)).frozen? ⟨p, 0, none⟩ = false := (hA.frozen (p := ⟨p, 0, none⟩) hp.lt).trans (hp.frozen 0)
  have hta := ta_yes (.agg #[.int .i64 a])
  have hpl : ¬ p = w.heap.size := by have := hp.lt; omega
  have hqc : ((w.alloc (.cells #[.int .i64 a] 50)).setCell ⟨p, 0, none⟩ (.int .i64 a)).cell? ⟨q, 0, none⟩ = some (.int .i64 y) := by
    have h1 : ((w.alloc (.cells #[.int .i64 a] 50)).setCell ⟨p, 0, none⟩ (.int .i64 a)).heap[q]? = (w.alloc (.cells #[.int .i64 a] 50)).heap[q]? := Below.heap_setCell _ _ _ _ hne
    rw [World.cell?_of_block (w := w.alloc (.cells #[.int .i64 a] 50)) (a := ⟨q, 0, none⟩) h1]
    exact (hA.cell (p := ⟨q, 0, none⟩) hq.lt).trans (hq.cell 0)
  have hqf : ((w.alloc (.cells #[.int .i64 a] 50)).setCell ⟨p, 0, none⟩ (.int .i64 a)).frozen? ⟨q, 0, none⟩ = false := by
    have h1 : ((w.alloc (.cells #[.int .i64 a] 50)).setCell ⟨p, 0, none⟩ (.int .i64 a)).heap[q]? = (w.alloc (.cells #[.int .i64 a] 50)).heap[q]? := Below.heap_setCell _ _ _ _ hne
    rw [World.frozen?_of_block (w := w.alloc (.cells #[.int .i64 a] 50)) (a := ⟨q, 0, none⟩) h1]
    exact (hA.frozen (p := ⟨q, 0, none⟩) hq.lt).trans (hq.frozen 0)
  clear hA
  refine callsD_of_wpS Tryd.func21 rfl fun c₀ cs hu => ?_
  simp only [Tryd.ntmps21, List.size_toArray, List.length_cons, List.length_nil, Nat.reduceAdd, Nat.reduceSub, Array.replicate_succ, Array.replicate_zero, List.push_toArray, List.append_toArray, List.nil_append, List.cons_append]
  apply wpS_seq
  apply wpS_region
  simp [wpOpsS, go_sem, recoverD, hu, Exit.thenS, hta]
  apply wpS_seq
  apply wpS_region
  simp [wpOpsS, go_sem, Exit.thenS]
  refine wpS_cond (t := true) (by simp [Act.eval]) ?_
  simp only [if_true]
  apply wpS_region
  simp [wpOpsS, go_sem, hpc, hpf, hqc, hqf, bodyPostS, results, Tryd.results21]
theorem catch_idle (p q : Value) (w : World) :
    CallsD Tryd.prog 21 #[p, q] .returning w fun e u' w' => e = .returned (.tuple #[]) ∧ u' = .returning ∧ w' = w.alloc (.cells #[.int .i64 0] 50) := by
  have hta := ta_no
  refine callsD_of_wpS Tryd.func21 rfl fun c₀ cs hu => ?_
  simp only [Tryd.ntmps21, List.size_toArray, List.length_cons, List.length_nil, Nat.reduceAdd, Nat.reduceSub, Array.replicate_succ, Array.replicate_zero, List.push_toArray, List.append_toArray, List.nil_append, List.cons_append]
  apply wpS_seq
  apply wpS_region
  simp [wpOpsS, go_sem, recoverD, hu, Exit.thenS, hta]
  apply wpS_seq
  apply wpS_region
  simp [wpOpsS, go_sem, Exit.thenS]
  refine wpS_cond (t := false) (by simp [Act.eval]) ?_
  simp only [Bool.false_eq_true, if_false]
  refine wpS_of_wp (wp_skip ?_)
  cases c₀
  simp_all [bodyPostS, results, Tryd.results21]
/-- What is kept, and what is laid, where a fault was caught. -/
def Caught (p q : Nat) (a : Int) (w w' : World) : Prop := BoxN w' p 3 #[.int .i64 a] ∧ BoxN w' q 28 #[.int .i64 4] ∧ (∀ B t cs, BoxN w B t cs → B ≠ p → B ≠ q → BoxN w' B t cs) ∧ (∀ n w0, n ≤ p → n ≤ q → n ≤ w.heap.size → Below n w0 w → Below n w0 w')
theorem setCell_box {W : World} {B : Nat} {t : TypeId} {v u : Value} (h : BoxN W B t #[v]) : BoxN (W.setCell ⟨B, 0, none⟩ u) B t #[u] := by
  have := setCell_eq_setRow W B 0 #[v] t (0, 0) u h
  rw [this]
  exact (grown_row (cs := #[u]) h).1
theorem box_other {W : World} {B B' : Nat} {t : TypeId} {cs : Array Value} (u : Value) (h : BoxN W B t cs) (hne : B ≠ B') : BoxN (W.setCell ⟨B', 0, none⟩ u) B t cs := (Below.heap_setCell W ⟨B', 0, none⟩ u B hne).trans h
theorem catch_box (p q : Nat) (a : Int) (w : World) (x y : Int) (hp : BoxN w p 3 #[.int .i64 x]) (hq : BoxN w q 28 #[.int .i64 y]) (hne : q ≠ p) :
    CallsD Tryd.prog 21 #[.pointer (some ⟨p, 0, none⟩), .pointer (some ⟨q, 0, none⟩)] (.panicking [{ v := .iface 50 (.agg #[.int .i64 a]), recovered := false }]) w fun e u' w' =>
      e = .returned (.tuple #[]) ∧ u' = .panicking [{ v := .iface 50 (.agg #[.int .i64 a]), recovered := true }] ∧ Caught p q a w w' := by
  refine (catch_panicking p q a w x y hp hq hne).mono ?_
  rintro e u' w' ⟨h1, h2, rfl⟩
  refine ⟨h1, h2, box_other _ (setCell_box (hp.alloc _)) (fun e => hne e.symm), setCell_box (box_other _ (hq.alloc _) hne), fun B t cs h hb1 hb2 => box_other _ (box_other _ (h.alloc _) hb1) hb2, fun n w0 h1 h2 h3 hb => ?_⟩
  exact ((hb.alloc h3 _).setCell h1 _).setCell h2 _
/-- What whole does. -/
def WhR (T : ByteArray) (w : World) (R : Except (List UInt8) Ex) (e : Ending) (w' : World) : Prop :=
  match R with
  | .ok x => (∃ y : Ex, e = .returned (.tuple #[.agg #[.int .i64 y.k, .int .u64 (wd y.S 0), .int .u64 (wd y.S 1), .int .u64 (wd y.S 2), .int .u64 (wd y.S 3), .string y.t, .slice y.a y.kids.length y.c], .int .i64 0, .int .i64 0]) ∧ y.er = x ∧ y.Ou (w.heap.size ≤ ·) w') ∧ Below w.heap.size w w'
  | .error s => (∃ y : Ex, e = .returned (.tuple #[.agg #[.int .i64 y.k, .int .u64 (wd y.S 0), .int .u64 (wd y.S 1), .int .u64 (wd y.S 2), .int .u64 (wd y.S 3), .string y.t, .slice y.a y.kids.length y.c], .int .i64 ((T.size : Int) - s.length), .int .i64 4])) ∧ Below w.heap.size w w'
theorem z7_ex : z7 = (nd 0 []).cells := by
  have := nd0_val 0
  unfold Ex.val at this
  cases this
  rfl
/-- The three results' boxes. -/
structure Wp (w W : World) (e : Ex) : Prop where
  be : BoxN W w.heap.size 27 e.cells
  ba : BoxN W (w.heap.size + 1) 3 #[.int .i64 0]
  br : BoxN W (w.heap.size + 1 + 1) 28 #[.int .i64 0]
  bl : Below w.heap.size w W
theorem Wp.below {w W W1 : World} {e : Ex} (h : Wp w W e) (hb : Below W.heap.size W W1) : Wp w W1 e :=
  ⟨h.be.below hb h.be.lt, h.ba.below hb h.ba.lt, h.br.below hb h.br.lt, h.bl.trans (hb.mono h.bl.size)⟩
theorem Wp.gr {w W W1 : World} {e : Ex} {P : Nat} (h : Wp w W e) (hg : W.grownBy W1 (some P)) (hP : w.heap.size + 1 + 1 < P) : Wp w W1 e :=
  ⟨h.be.kept hg (fun e => by cases e; omega), h.ba.kept hg (fun e => by cases e; omega), h.br.kept hg (fun e => by cases e; omega), h.bl.grown hg h.bl.size (fun k e => by cases e; omega)⟩
theorem Wp.own {w W W1 : World} {e y : Ex} (h : Wp w W e) (hb : BoxN W1 w.heap.size 27 y.cells) (hg : W.grownBy W1 (some w.heap.size)) : Wp w W1 y :=
  ⟨hb, h.ba.kept hg (fun e => by have := Option.some.inj e; omega), h.br.kept hg (fun e => by have := Option.some.inj e; omega), h.bl.grown hg h.bl.size (fun k e => by cases e; omega)⟩
theorem Wp.alloc {w W : World} {e : Ex} (h : Wp w W e) (o : Obj) : Wp w (W.alloc o) e := h.below ((Below.refl _ _).alloc (Nat.le_refl _) o)
theorem Wp.start (w : World) : Wp w (((w.alloc (.cells z7 27)).alloc (.cells #[.int .i64 0] 3)).alloc (.cells #[.int .i64 0] 28)) (nd 0 []) := by
  have h1 := ((BoxN.new w 27 z7).alloc (.cells #[.int .i64 0] 3)).alloc (.cells #[.int .i64 0] 28)
  have h2 := (BoxN.new (w.alloc (.cells z7 27)) 3 #[.int .i64 0]).alloc (.cells #[.int .i64 0] 28)
  have h3 := BoxN.new ((w.alloc (.cells z7 27)).alloc (.cells #[.int .i64 0] 3)) 28 #[.int .i64 0]
  have hb := (((Below.refl w.heap.size w).alloc (Nat.le_refl _) (.cells z7 27)).alloc (by simp) (.cells #[.int .i64 0] 3)).alloc (by simp; omega) (.cells #[.int .i64 0] 28)
  rw [show (w.alloc (.cells z7 27)).heap.size = w.heap.size + 1 from by simp] at h2
  rw [show ((w.alloc (.cells z7 27)).alloc (.cells #[.int .i64 0] 3)).heap.size = w.heap.size + 1 + 1 from by simp] at h3
  rw [z7_ex] at *
  exact ⟨h1, h2, h3, hb⟩
/-- A fault comes through the door. -/
theorem Wp.caught {w W W' : World} {e : Ex} {a : Int} (h : Wp w W e) (hc : Caught (w.heap.size + 1) (w.heap.size + 1 + 1) a W W') : BoxN W' w.heap.size 27 e.cells ∧ BoxN W' (w.heap.size + 1) 3 #[.int .i64 a] ∧ BoxN W' (w.heap.size + 1 + 1) 28 #[.int .i64 4] ∧ Below w.heap.size w W' :=
  ⟨hc.2.2.1 _ _ _ h.be (by omega) (by omega), hc.1, hc.2.1, hc.2.2.2 _ _ (by omega) (by omega) h.bl.size h.bl⟩
set_option maxRecDepth 20000 in
set_option maxHeartbeats 4000000 in
theorem whole_none (T : ByteArray) (w : World) (hT : T.size ≤ 1000000) (h3 : (tok T.data.toList).k = 3) :
    Calls Tryd.prog 13 #[.string T] w fun e w' => WhR T w (.error (tok T.data.toList).s) e w' := by
  have hmf : ∀ (fn : Fn) (first cap : Array Value) (w : World), (Instr.makeFunc fn first cap).run Tryd.prog w = .ok (.func fn first cap) w := fun _ _ _ _ => rfl
  have W0 : Hid (Wp w (((w.alloc (.cells z7 27)).alloc (.cells #[.int .i64 0] 3)).alloc (.cells #[.int .i64 0] 28)) (nd 0 [])) := Wp.start w
  have htf := tokenFrom_any T 0 (((w.alloc (.cells z7 27)).alloc (.cells #[.int .i64 0] 3)).alloc (.cells #[.int .i64 0] 28)) (by omega) (by omega)
  rw [List.drop_zero, show ((0 : Nat) : Int) = 0 from rfl] at htf
  unfold TokR at htf
  simp only [h3, if_true] at htf
  unfold thrown at htf
  rw [z7_eq] at htf
  clear h3
  generalize (tok T.data.toList).s = s at *
  go_enter_defers Tryd.func13, Tryd.ntmps13
  go_wp2_with (go_at_call 22; refine htf.mono ?_; rintro e w1 ⟨rfl, hb1⟩; rw [← z7_eq] at hb1; have W1 : Hid _ := W0.out.below hb1; clear hb1)
  refine leaves_cons (f := 21) (args := #[.pointer (some ⟨w.heap.size + 1, 0, none⟩), .pointer (some ⟨w.heap.size + 1 + 1, 0, none⟩)]) (by simp) (by simp [go_sem]) ?_
  refine (catch_box (w.heap.size + 1) (w.heap.size + 1 + 1) _ _ _ _ W1.out.ba W1.out.br (by omega)).mono ?_
  rintro e u' w'' ⟨rfl, rfl, hct⟩
  obtain ⟨k1, k2, k3, k4⟩ := W1.out.caught hct
  have c1 := k1.cell
  have c2 := k2.cell
  have c3 := k3.cell
  rw [cells_eq] at c1
  clear hct
  simp [Leaves, settle, results, Tryd.results13, go_sem, c1, c2, c3]
  exact ⟨⟨nd 0 [], rfl⟩, k4⟩
theorem pz11 : (Tryd.prog.info? 56).map (·.size) = some 11 := Tryd.info56
set_option maxRecDepth 20000 in
set_option maxHeartbeats 4000000 in
theorem whole_some (T : ByteArray) (w : World) (hT : T.size ≤ 1000000) (h3 : ¬ (tok T.data.toList).k = 3) :
    Calls Tryd.prog 13 #[.string T] w fun e w' => WhR T w (thn (altP (preP (T.data.toList.length + 1)) (tok T.data.toList)) fun x => if x.2.k = 0 then .ok x.1 else .error x.2.s) e w' := by
  have hmf : ∀ (fn : Fn) (first cap : Array Value) (w : World), (Instr.makeFunc fn first cap).run Tryd.prog w = .ok (.func fn first cap) w := fun _ _ _ _ => rfl
  have W0 : Hid (Wp w (((w.alloc (.cells z7 27)).alloc (.cells #[.int .i64 0] 3)).alloc (.cells #[.int .i64 0] 28)) (nd 0 [])) := Wp.start w
  have htf := tokenFrom_any T 0 (((w.alloc (.cells z7 27)).alloc (.cells #[.int .i64 0] 3)).alloc (.cells #[.int .i64 0] 28)) (by omega) (by omega)
  rw [List.drop_zero, show ((0 : Nat) : Int) = 0 from rfl] at htf
  unfold TokR at htf
  simp only [h3, if_false] at htf
  have hof := tok_of T.data.toList T.data.toList (List.suffix_refl _) h3
  have hsl := hof.2.1.length_le
  clear h3
  generalize tok T.data.toList = t at *
  generalize hN : T.data.toList.length + 1 = N at *
  have hal : ∀ (P : Nat) (W : World), BoxN W P 56 (pcells T t) → _ := fun P W hW => altp_does T P hT N t W hof (by omega) hW
  have HPB : Hid (∀ {W1 : World}, Wp w W1 (nd 0 []) → Wp w (W1.alloc (.cells (pcells T t) 56)) (nd 0 []) ∧ BoxN (W1.alloc (.cells (pcells T t) 56)) W1.heap.size 56 (pcells T t) ∧ w.heap.size + 1 + 1 < W1.heap.size) := fun h => ⟨h.alloc _, BoxN.new _ 56 _, h.br.lt⟩
  have htc : tcells T.size t = #[.int .u8 (t.k.toNat : Int), .int .i64 ((T.size : Int) - t.s.length), .int .i64 ((T.size : Int) - t.r.length), .int .i64 t.e.k, .int .u64 (wd t.e.S 0), .int .u64 (wd t.e.S 1), .int .u64 (wd t.e.S 2), .int .u64 (wd t.e.S 3), .string t.e.t, .slice t.e.a t.e.kids.length t.e.c] := rfl
  rw [htc, z7_eq] at htf
  clear htc hof hsl hN
  cases hp : altP (preP N) t with
  | error s =>
    rw [hp] at hal
    rw [thn_error]
    unfold PR at hal
    simp only at hal
    unfold thrown at hal
    clear hp
    go_enter_defers Tryd.func13, Tryd.ntmps13
    go_wp2_with (first
      | (go_at_call 22; refine htf.mono ?_; clear htf; rintro e w1 ⟨rfl, hb1⟩; rw [← z7_eq] at hb1; have W1 : Hid _ := W0.out.below hb1; have W2 : Hid _ := HPB.out W1.out; clear hb1)
      | (go_at_call 23; refine (hal _ _ W2.out.2.1).mono ?_; clear hal; rintro e w4 ⟨rfl, hg4⟩; have W4 : Hid _ := W2.out.1.gr hg4 W2.out.2.2))
    refine leaves_cons (f := 21) (args := #[.pointer (some ⟨w.heap.size + 1, 0, none⟩), .pointer (some ⟨w.heap.size + 1 + 1, 0, none⟩)]) (by simp) (by simp [go_sem]) ?_
    refine (catch_box (w.heap.size + 1) (w.heap.size + 1 + 1) _ _ _ _ W4.out.ba W4.out.br (by omega)).mono ?_
    rintro e u' w'' ⟨rfl, rfl, hct⟩
    obtain ⟨k1, k2, k3, k4⟩ := W4.out.caught hct
    have c1 := k1.cell
    have c2 := k2.cell
    have c3 := k3.cell
    rw [cells_eq] at c1
    clear hct
    simp [Leaves, settle, results, Tryd.results13, go_sem, c1, c2, c3]
    exact ⟨⟨nd 0 [], rfl⟩, k4⟩
  | ok x =>
    rw [hp] at hal
    rw [thn_ok]
    unfold PR at hal
    simp only at hal
    unfold Says at hal
    clear hp
    have hwt : ∀ (P : Nat) (W : World), BoxN W P 56 (pcells T x.2) → _ := fun P W hW => want_any T P x.2 0 W hW
    rw [show (((0 : UInt8).toNat : Nat) : Int) = 0 from rfl] at hwt
    by_cases h0 : x.2.k = 0
    · simp only [if_pos h0] at hwt
      rw [if_pos h0]
      clear h0
      go_enter_defers Tryd.func13, Tryd.ntmps13
      go_wp2_with (first
        | (go_at_call 22; refine htf.mono ?_; clear htf; rintro e w1 ⟨rfl, hb1⟩; rw [← z7_eq] at hb1; have W1 : Hid _ := W0.out.below hb1; have W2 : Hid _ := HPB.out W1.out; clear hb1)
        | (go_at_call 23; refine (hal _ _ W2.out.2.1).mono ?_; clear hal; rintro e w4 ⟨⟨y, rfl, hye, hyo⟩, hb4, hg4⟩; have W4 : Hid _ := W2.out.1.gr hg4 W2.out.2.2; have HYO : Hid _ := hyo; have HB4 : Hid _ := hb4; clear hyo hb4 hg4)
        | (refine wpList_store_box rfl 27 _ _ rfl w.heap.size _ rfl rfl (nd 0 []).cells W4.out.be Tryd.info27 rfl (by simp [Value.oneCell']) ?_; intro w5 hx5 hg5; have W5 : Hid (Wp w w5 y) := W4.out.own hx5 hg5; have N5 : Hid (y.Ou (w.heap.size + 1 + 1 + 1 ≤ ·) w5) := Ex.Ou.gr hg5 (fun b hb _ => ⟨fun e => by have := Option.some.inj e; simp at hb; have := W2.out.2.2; omega, by simp at hb; have := W2.out.2.2; omega⟩) HYO.out; have HB5 : Hid _ := BoxN.kept (t := 56) HB4.out hg5 (fun e => by have := Option.some.inj e; have := W2.out.2.2; omega); have c5 := hx5.cell; clear hx5 hg5)
        | (go_at_call 24; refine (hwt _ _ HB5.out).mono ?_; clear hwt; rintro e w6 ⟨rfl, rfl⟩)
        | (refine wpList_store_box rfl 27 _ _ rfl w.heap.size _ rfl rfl y.cells W5.out.be Tryd.info27 rfl (by simp [Value.oneCell']) ?_; intro w7 hx7 hg7; have W7 : Hid (Wp w w7 y) := W5.out.own hx7 hg7; have N7 : Hid (y.Ou (w.heap.size + 1 + 1 + 1 ≤ ·) w7) := Ex.Ou.gr hg7 (fun b hb _ => ⟨fun e => by have := Option.some.inj e; omega, hb⟩) N5.out; have a7 := W7.out.ba.cell 0; have b7 := W7.out.ba.frozen 0; have r7 := (box_other (.int .i64 0) W7.out.br (show w.heap.size + 1 + 1 ≠ w.heap.size + 1 from by omega)).cell 0; have s7 := (box_other (.int .i64 0) W7.out.br (show w.heap.size + 1 + 1 ≠ w.heap.size + 1 from by omega)).frozen 0; clear hx7 hg7))
      refine leaves_cons (f := 21) (args := #[.pointer (some ⟨w.heap.size + 1, 0, none⟩), .pointer (some ⟨w.heap.size + 1 + 1, 0, none⟩)]) (by simp) (by simp [go_sem]) ?_
      refine (catch_idle _ _ _).mono ?_
      rintro e u' w'' ⟨rfl, rfl, hw⟩
      have k1 : BoxN w'' w.heap.size 27 y.cells := by rw [hw]; exact (box_other _ (box_other _ W7.out.be (by omega)) (by omega)).alloc _
      have k2 : BoxN w'' (w.heap.size + 1) 3 #[.int .i64 0] := by rw [hw]; exact (box_other _ (setCell_box W7.out.ba) (by omega)).alloc _
      have k3 : BoxN w'' (w.heap.size + 1 + 1) 28 #[.int .i64 0] := by rw [hw]; exact (setCell_box (box_other _ W7.out.br (by omega))).alloc _
      have hgz : w7.grownBy w'' none ∨ True := .inr trivial
      have k4 : Below w.heap.size w w'' ∧ y.Ou (w.heap.size ≤ ·) w'' := by
        rw [hw]
        have h1 : Below w.heap.size w ((w7.setCell ⟨w.heap.size + 1, 0, none⟩ (.int .i64 0)).setCell ⟨w.heap.size + 1 + 1, 0, none⟩ (.int .i64 0)) := (W7.out.bl.setCell (by show w.heap.size ≤ w.heap.size + 1; omega) _).setCell (by show w.heap.size ≤ w.heap.size + 1 + 1; omega) _
        refine ⟨h1.alloc h1.size _, ?_⟩
        have n1 := Ex.Ou.gr (grownBy_setCell' w7 (w.heap.size + 1) (.int .i64 0)) (Q := (w.heap.size + 1 + 1 + 1 ≤ ·)) (fun b hb _ => ⟨fun e => by have := Option.some.inj e; omega, hb⟩) N7.out
        have n2 := Ex.Ou.gr (grownBy_setCell' _ (w.heap.size + 1 + 1) (.int .i64 0)) (Q := (w.heap.size + 1 + 1 + 1 ≤ ·)) (fun b hb _ => ⟨fun e => by have := Option.some.inj e; omega, hb⟩) n1
        exact Ex.Ou.gr (World.grownBy_alloc _ _ none) (fun b hb _ => ⟨by simp, by omega⟩) n2
      have c1 := k1.cell
      have c2 := k2.cell
      have c3 := k3.cell
      rw [cells_eq] at c1
      clear hw
      simp [Leaves, settle, results, Tryd.results13, go_sem, c1, c2, c3]
      exact ⟨⟨y, rfl, hye, k4.2⟩, k4.1⟩
    · simp only [if_neg h0] at hwt
      rw [if_neg h0]
      unfold thrown at hwt
      clear h0
      go_enter_defers Tryd.func13, Tryd.ntmps13
      go_wp2_with (first
        | (go_at_call 22; refine htf.mono ?_; clear htf; rintro e w1 ⟨rfl, hb1⟩; rw [← z7_eq] at hb1; have W1 : Hid _ := W0.out.below hb1; have W2 : Hid _ := HPB.out W1.out; clear hb1)
        | (go_at_call 23; refine (hal _ _ W2.out.2.1).mono ?_; clear hal; rintro e w4 ⟨⟨y, rfl, hye, hyo⟩, hb4, hg4⟩; have W4 : Hid _ := W2.out.1.gr hg4 W2.out.2.2; have HB4 : Hid _ := hb4; clear hyo hb4 hg4 hye)
        | (refine wpList_store_box rfl 27 _ _ rfl w.heap.size _ rfl rfl (nd 0 []).cells W4.out.be Tryd.info27 rfl (by simp [Value.oneCell']) ?_; intro w5 hx5 hg5; have W5 : Hid (Wp w w5 y) := ⟨hx5, W4.out.ba.kept hg5 (fun e => by have := Option.some.inj e; omega), W4.out.br.kept hg5 (fun e => by have := Option.some.inj e; omega), W4.out.bl.grown hg5 W4.out.bl.size (fun k e => by cases e; omega)⟩)
        | (go_at_call 24; refine (hwt _ _ (BoxN.kept (t := 56) HB4.out hg5 (fun e => by have := Option.some.inj e; have := W2.out.2.2; omega))).mono ?_; clear hwt; rintro e w6 ⟨rfl, rfl⟩))
      refine leaves_cons (f := 21) (args := #[.pointer (some ⟨w.heap.size + 1, 0, none⟩), .pointer (some ⟨w.heap.size + 1 + 1, 0, none⟩)]) (by simp) (by simp [go_sem]) ?_
      refine (catch_box (w.heap.size + 1) (w.heap.size + 1 + 1) _ _ _ _ W5.out.ba W5.out.br (by omega)).mono ?_
      rintro e u' w'' ⟨rfl, rfl, hct⟩
      obtain ⟨k1, k2, k3, k4⟩ := W5.out.caught hct
      have c1 := k1.cell
      have c2 := k2.cell
      have c3 := k3.cell
      rw [cells_eq] at c1
      clear hct
      simp [Leaves, settle, results, Tryd.results13, go_sem, c1, c2, c3]
      exact ⟨⟨y, rfl⟩, k4⟩
end Go.Proofs.YtnfngbghnkiaiaaDoor
