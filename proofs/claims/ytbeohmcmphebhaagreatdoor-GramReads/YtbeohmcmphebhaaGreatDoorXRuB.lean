import Derived.Test.YtbeohmcmphebhaaGreatDoorXParH
import Derived.Defers
import Derived.Recover
import Derived.Test.YtbeohmcmphebhaaGreatDoorXGChkA
import Derived.Deep.AppendLies
namespace Go.Proofs.YtbeohmcmphebhaaGreatDoor
open Go.RowKit
set_option linter.unusedVariables false
theorem pre_does (T : ByteArray) (B : Nat) (hT : T.size ≤ 1000000) : ∀ n, Does T B 108 n (preP n) := by
  intro n
  induction n with
  | zero => intro t w _ h; omega
  | succ n ih =>
    intro t w ht hn hB
    rw [preP]
    split
    · rename_i h; exact pre_and T B n hT ih t w ht hn hB h
    split
    · rename_i h; exact pre_not T B n hT ih t w ht hn hB h
    · rename_i h1 h2
      have hg := preP_fine (T := T.data.toList) n
      exact pre_post T B n hT (prim_does T B n (preP n) hT (altP_fine hg) (alt_does T B n (preP n) hT hg (seq_does T B n (preP n) hT hg ih))) t w ht hn hB h1 h2
theorem altp_does (T : ByteArray) (B : Nat) (hT : T.size ≤ 1000000) (n : Nat) : Does T B 75 n (altP (preP n)) :=
  alt_does T B n (preP n) hT (preP_fine n) (seq_does T B n (preP n) hT (preP_fine n) (pre_does T B hT n))
theorem ta_yes (v : Value) (w : World) : (Instr.typeAssert (.iface 84 v) 20 84 true).run Tryz.prog w = .ok (.tuple #[v, .bool true]) w := by
  have h := Tryz.underlying84
  simp [Instr.typeAssert, run_underlying h, go_sem, Result.andThen]
theorem ta_no (w : World) : (Instr.typeAssert .nilIface 20 84 true).run Tryz.prog w = .ok (.tuple #[.agg #[.int .i64 0], .bool false]) w := by
  have h := Tryz.underlying84
  simp [Instr.typeAssert, run_underlying h, go_sem, Result.andThen]
theorem ntmps47 : Tryz.f47.ntmps = 12 := Tryz.ntmps47
set_option maxRecDepth 20000 in
theorem catch_panicking (p q : Nat) (a : Int) (w : World) (x y : Int) (hp : BoxN w p 3 #[.int .i64 x]) (hq : BoxN w q 25 #[.int .i64 y]) (hne : q ≠ p) :
    CallsD Tryz.prog 47 #[.pointer (some ⟨p, 0, none⟩), .pointer (some ⟨q, 0, none⟩)] (.panicking [{ v := .iface 84 (.agg #[.int .i64 a]), recovered := false }]) w fun e u' w' =>
      e = .returned (.tuple #[]) ∧ u' = .panicking [{ v := .iface 84 (.agg #[.int .i64 a]), recovered := true }] ∧ w' = ((w.alloc (.cells #[.int .i64 a] 84)).setCell ⟨p, 0, none⟩ (.int .i64 a)).setCell ⟨q, 0, none⟩ (.int .i64 4) := by
  have hA := (Below.refl w.heap.size w).alloc (Nat.le_refl _) (.cells #[.int .i64 a] 84)
  have hpc : (w.alloc (.cells #[.int .i64 a] 84)).cell? ⟨p, 0, none⟩ = some (.int .i64 x) := (hA.cell (p := ⟨p, 0, none⟩) hp.lt).trans (hp.cell 0)
  have hpf : (w.alloc (.cells #[.int .i64 a] 84)).frozen? ⟨p, 0, none⟩ = false := (hA.frozen (p := ⟨p, 0, none⟩) hp.lt).trans (hp.frozen 0)
  have hta := ta_yes (.agg #[.int .i64 a])
  have hpl : ¬ p = w.heap.size := by have := hp.lt; omega
  have hqc : ((w.alloc (.cells #[.int .i64 a] 84)).setCell ⟨p, 0, none⟩ (.int .i64 a)).cell? ⟨q, 0, none⟩ = some (.int .i64 y) := by
    have h1 : ((w.alloc (.cells #[.int .i64 a] 84)).setCell ⟨p, 0, none⟩ (.int .i64 a)).heap[q]? = (w.alloc (.cells #[.int .i64 a] 84)).heap[q]? := Below.heap_setCell _ _ _ _ hne
    rw [World.cell?_of_block (w := w.alloc (.cells #[.int .i64 a] 84)) (a := ⟨q, 0, none⟩) h1]
    exact (hA.cell (p := ⟨q, 0, none⟩) hq.lt).trans (hq.cell 0)
  have hqf : ((w.alloc (.cells #[.int .i64 a] 84)).setCell ⟨p, 0, none⟩ (.int .i64 a)).frozen? ⟨q, 0, none⟩ = false := by
    have h1 : ((w.alloc (.cells #[.int .i64 a] 84)).setCell ⟨p, 0, none⟩ (.int .i64 a)).heap[q]? = (w.alloc (.cells #[.int .i64 a] 84)).heap[q]? := Below.heap_setCell _ _ _ _ hne
    rw [World.frozen?_of_block (w := w.alloc (.cells #[.int .i64 a] 84)) (a := ⟨q, 0, none⟩) h1]
    exact (hA.frozen (p := ⟨q, 0, none⟩) hq.lt).trans (hq.frozen 0)
  clear hA
  refine callsD_of_wpS Tryz.func47 rfl fun c₀ cs hu => ?_
  simp only [Tryz.ntmps47, List.size_toArray, List.length_cons, List.length_nil, Nat.reduceAdd, Nat.reduceSub, Array.replicate_succ, Array.replicate_zero, List.push_toArray, List.append_toArray, List.nil_append, List.cons_append]
  apply wpS_seq
  apply wpS_region
  simp [wpOpsS, go_sem, recoverD, hu, Exit.thenS, hta]
  apply wpS_seq
  apply wpS_region
  simp [wpOpsS, go_sem, Exit.thenS]
  refine wpS_cond (t := true) (by simp [Act.eval]) ?_
  simp only [if_true]
  apply wpS_region
  simp [wpOpsS, go_sem, hpc, hpf, hqc, hqf, bodyPostS, results, Tryz.results47]
theorem catch_idle (p q : Value) (w : World) :
    CallsD Tryz.prog 47 #[p, q] .returning w fun e u' w' => e = .returned (.tuple #[]) ∧ u' = .returning ∧ w' = w.alloc (.cells #[.int .i64 0] 84) := by
  have hta := ta_no
  refine callsD_of_wpS Tryz.func47 rfl fun c₀ cs hu => ?_
  simp only [Tryz.ntmps47, List.size_toArray, List.length_cons, List.length_nil, Nat.reduceAdd, Nat.reduceSub, Array.replicate_succ, Array.replicate_zero, List.push_toArray, List.append_toArray, List.nil_append, List.cons_append]
  apply wpS_seq
  apply wpS_region
  simp [wpOpsS, go_sem, recoverD, hu, Exit.thenS, hta]
  apply wpS_seq
  apply wpS_region
  simp [wpOpsS, go_sem, Exit.thenS]
  refine wpS_cond (t := false) (by simp [Act.eval]) ?_
  simp only [Bool.false_eq_true, if_false]
  refine wpS_of_wp (wp_skip ?_)
  cases c₀
  simp_all [bodyPostS, results, Tryz.results47]
/-- What is kept, and what is laid, where a fault was caught. -/
def Caught (p q : Nat) (a : Int) (w w' : World) : Prop := BoxN w' p 3 #[.int .i64 a] ∧ BoxN w' q 25 #[.int .i64 4] ∧ (∀ B t cs, BoxN w B t cs → B ≠ p → B ≠ q → BoxN w' B t cs) ∧ (∀ n w0, n ≤ p → n ≤ q → n ≤ w.heap.size → Below n w0 w → Below n w0 w')
theorem setCell_box {W : World} {B : Nat} {t : TypeId} {v u : Value} (h : BoxN W B t #[v]) : BoxN (W.setCell ⟨B, 0, none⟩ u) B t #[u] := by
  have := setCell_eq_setRow W B 0 #[v] t (0, 0) u h
  rw [this]
  exact (grown_row (cs := #[u]) h).1
theorem box_other {W : World} {B B' : Nat} {t : TypeId} {cs : Array Value} (u : Value) (h : BoxN W B t cs) (hne : B ≠ B') : BoxN (W.setCell ⟨B', 0, none⟩ u) B t cs := (Below.heap_setCell W ⟨B', 0, none⟩ u B hne).trans h
theorem catch_box (p q : Nat) (a : Int) (w : World) (x y : Int) (hp : BoxN w p 3 #[.int .i64 x]) (hq : BoxN w q 25 #[.int .i64 y]) (hne : q ≠ p) :
    CallsD Tryz.prog 47 #[.pointer (some ⟨p, 0, none⟩), .pointer (some ⟨q, 0, none⟩)] (.panicking [{ v := .iface 84 (.agg #[.int .i64 a]), recovered := false }]) w fun e u' w' =>
      e = .returned (.tuple #[]) ∧ u' = .panicking [{ v := .iface 84 (.agg #[.int .i64 a]), recovered := true }] ∧ Caught p q a w w' := by
  refine (catch_panicking p q a w x y hp hq hne).mono ?_
  rintro e u' w' ⟨h1, h2, rfl⟩
  refine ⟨h1, h2, box_other _ (setCell_box (hp.alloc _)) (fun e => hne e.symm), setCell_box (box_other _ (hq.alloc _) hne), fun B t cs h hb1 hb2 => box_other _ (box_other _ (h.alloc _) hb1) hb2, fun n w0 h1 h2 h3 hb => ?_⟩
  exact ((hb.alloc h3 _).setCell h1 _).setCell h2 _
end Go.Proofs.YtbeohmcmphebhaaGreatDoor
namespace Go.Proofs.YtbeohmcmphebhaaGreatDoor
open Go.RowKit
set_option linter.unusedVariables false
/-! Rules. -/
abbrev Rl := ByteArray × Ex
def z8 : Array Value := #[.string ⟨#[]⟩, .int .i64 0, .int .u64 0, .int .u64 0, .int .u64 0, .int .u64 0, .string ⟨#[]⟩, .slice none 0 0]
theorem z8_eq : z8 = #[.string ⟨#[]⟩, .int .i64 0, .int .u64 0, .int .u64 0, .int .u64 0, .int .u64 0, .string ⟨#[]⟩, .slice none 0 0] := rfl
abbrev Rr := Except (List UInt8) (Rl × Tk)
def ruleP (pre : Tk → Rs) (t : Tk) : Rr := if t.k = 3 then thn (take t) fun u => thn (altP pre u) fun x => .ok ((t.e.t, x.1), x.2) else .error t.s
def rulesL (pre : Tk → Rs) : Nat → List Rl → Tk → Except (List UInt8) (List Rl × Tk)
  | 0, l, t => .ok (l, t)
  | m + 1, l, t => if t.k = 0 then .ok (l, t) else thn (ruleP pre t) fun x => rulesL pre m (l ++ [x.1]) x.2
def rulesP (pre : Tk → Rs) (t : Tk) : Except (List UInt8) (List Rl × Tk) := thn (ruleP pre t) fun x => rulesL pre x.2.s.length [x.1] x.2
/-- The rules that a text says, or the text from what can't stand on. -/
def readG (l : List UInt8) : Except (List UInt8) (List Rl) := thn (takeL l) fun t => thn (rulesP (preP (l.length + 1)) t) fun x => if x.2.k = 0 then .ok x.1 else .error x.2.s
def er2 (r : Rl) : Rl := (r.1, r.2.er)
/-- What reading a rule does. -/
def RuR (T : ByteArray) (B : Nat) (w : World) (R : Rr) (e : Ending) (w' : World) : Prop :=
  match R with
  | .ok x => (∃ y : Rl, e = .returned (.agg #[.string y.1, .int .i64 y.2.k, .int .u64 (wd y.2.S 0), .int .u64 (wd y.2.S 1), .int .u64 (wd y.2.S 2), .int .u64 (wd y.2.S 3), .string y.2.t, .slice y.2.a y.2.kids.length y.2.c]) ∧ er2 y = x.1 ∧ y.1.size ≤ T.size ∧ y.2.Ou (w.heap.size ≤ ·) w') ∧ BoxN w' B 89 (pcells T x.2) ∧ w.grownBy w' (some B)
  | .error s => e = thrown T.size s ∧ w.grownBy w' (some B)
theorem Tryz.info49 : (Tryz.prog.info? 49).map (·.size) = some 8 := by kernel_rfl
theorem take3_fine {t : Tk} {T : List UInt8} (h : t.of T) (h3 : t.k = 3) : match take t with | .ok u => u.of T ∧ u.s.length < t.s.length | .error s => s <:+ T := take_fine h (by rw [h3]; decide)
set_option maxRecDepth 20000 in
set_option maxHeartbeats 4000000 in
theorem rule_does (T : ByteArray) (B n : Nat) (hT : T.size ≤ 1000000) (t : Tk) (w : World) (ht : t.of T.data.toList) (hn : t.s.length < n) (hB : BoxN w B 89 (pcells T t)) :
    Calls Tryz.prog 50 #[.pointer (some ⟨B, 0, none⟩)] w fun e w' => RuR T B w (ruleP (preP n) t) e w' := by
  have hBl := hB.lt
  have bB := hB.alloc (.cells z8 49)
  have bZ := BoxN.new w 49 z8
  have hg0 := gr_alloc (gr_refl B w) (.cells z8 49)
  have hcb := bB.cell
  rw [pcells_eq] at hcb
  have hwt := want_any T B t 3 (w.alloc (.cells z8 49)) bB
  rw [show (((3 : UInt8).toNat : Nat) : Int) = 3 from rfl] at hwt
  unfold ruleP
  by_cases h3 : t.k = 3
  · simp only [if_pos h3] at hwt
    rw [if_pos h3]
    have htk := take_any T B t (w.alloc (.cells z8 49)) (by omega) ht bB
    have htf := take3_fine ht h3
    have hnt : t.e.t.size ≤ T.size := by
      have h1 := (tokS_t t.s).1
      rw [← ht.1] at h1
      have h2 := ht.2.1.length_le
      rw [llen] at h2
      omega
    rw [z8_eq] at hwt htk hcb
    cases hu : take t with
    | error s =>
      rw [hu] at htk
      rw [thn_error]
      unfold TakeR at htk
      simp only at htk
      unfold RuR
      simp only
      unfold thrown at htk ⊢
      clear hu htf ht h3
      go_enter Tryz.func50, Tryz.ntmps50
      go_wp2_with (first
        | (go_at_call 49; refine hwt.mono ?_; rintro e w3 ⟨rfl, rfl⟩)
        | (go_at_call 48; refine htk.mono ?_; rintro e w4 ⟨rfl, hg4⟩; rw [← z8_eq] at hg4))
      exact ⟨rfl, rfl, gr_trans hg0 hg4⟩
    | ok u =>
      rw [hu] at htk htf
      simp only at htf
      rw [thn_ok]
      unfold TakeR at htk
      simp only at htk
      have hal : ∀ W, BoxN W B 89 (pcells T u) → _ := fun W hW => altp_does T B hT n u W htf.1 (by omega) hW
      clear hu htf ht h3
      cases hx : altP (preP n) u with
      | error s =>
        rw [hx] at hal
        rw [thn_error]
        unfold PR at hal
        simp only at hal
        unfold RuR
        simp only
        unfold thrown at hal ⊢
        clear hx
        go_enter Tryz.func50, Tryz.ntmps50
        go_wp2_with (first
          | (go_at_call 49; refine hwt.mono ?_; rintro e w3 ⟨rfl, rfl⟩)
          | (go_at_call 48; refine htk.mono ?_; rintro e w4 ⟨rfl, hb4, hg4⟩; rw [← z8_eq] at hg4)
          | (go_at_call 75; refine (hal _ hb4).mono ?_; rintro e w5 ⟨rfl, hg5⟩))
        exact ⟨rfl, rfl, gr_trans (gr_trans hg0 hg4) hg5⟩
      | ok x =>
        rw [hx] at hal
        rw [thn_ok]
        unfold PR at hal
        simp only at hal
        unfold Says at hal
        unfold RuR
        simp only
        clear hx
        go_enter Tryz.func50, Tryz.ntmps50
        go_wp2_with (first
          | (go_at_call 49; refine hwt.mono ?_; rintro e w3 ⟨rfl, rfl⟩)
          | (go_at_call 48; refine htk.mono ?_; rintro e w4 ⟨rfl, hb4, hg4⟩; rw [← z8_eq] at hg4; have bZ4 := bZ.kept hg4 (fun e => by cases e; omega))
          | (go_at_call 75; refine (hal _ hb4).mono ?_; rintro e w5 ⟨⟨y, rfl, hye, hyo⟩, hb5, hg5⟩; have bZ5 := bZ4.kept hg5 (fun e => by cases e; omega))
          | (refine wpList_store_box rfl 49 _ _ rfl w.heap.size _ rfl rfl z8 bZ5 Tryz.info49 rfl (by simp [Value.oneCell']) ?_; intro w6 hx6 hg6; have hc := hx6.cell))
        have hs4 := hg4.size
        simp at hs4
        refine bodyPost_ret (by simp [results, Tryz.results50, go_sem, hc]) rfl ⟨⟨(t.e.t, y), rfl, by unfold er2; rw [hye], hnt, ?_⟩, ?_, ?_⟩
        · exact hyo.gr hg6 (fun b hb _ => ⟨fun e => by cases e; omega, by omega⟩)
        · exact hb5.kept hg6 (fun e => by cases e; omega)
        · exact gr_own (gr_trans (gr_trans hg0 hg4) hg5) hg6 (Nat.le_refl _)
  · simp only [if_neg h3] at hwt
    rw [if_neg h3]
    unfold RuR
    simp only
    rw [z8_eq] at hwt
    unfold thrown at hwt ⊢
    clear h3 ht
    go_enter Tryz.func50, Tryz.ntmps50
    go_wp2_with (go_at_call 49; refine hwt.mono ?_; rintro e w3 ⟨rfl, rfl⟩)
    rw [← z8_eq]
    exact ⟨rfl, rfl, hg0⟩
end Go.Proofs.YtbeohmcmphebhaaGreatDoor
namespace Go.Proofs.YtbeohmcmphebhaaGreatDoor
open Go.RowKit
set_option linter.unusedVariables false
def rcsL (l : List Rl) : List Value := l.flatMap rcell
theorem rcsL_len : ∀ l : List Rl, (rcsL l).length = l.length * 8
  | [] => rfl
  | x :: r => by rw [show rcsL (x :: r) = rcell x ++ rcsL r from rfl, List.length_append, rcsL_len r, List.length_cons]; show 8 + _ = _; omega
theorem rcsL_at : ∀ (l : List Rl) (i j : Nat) (x : Rl), l[i]? = some x → j < 8 → (rcsL l)[i * 8 + j]? = (rcell x)[j]?
  | [], i, j, x, h, _ => by simp at h
  | y :: r, 0, j, x, h, hj => by
    simp at h; subst h
    rw [show rcsL (y :: r) = rcell y ++ rcsL r from rfl, Nat.zero_mul, Nat.zero_add, List.getElem?_append_left (by show j < 8; exact hj)]
  | y :: r, i + 1, j, x, h, hj => by
    rw [show rcsL (y :: r) = rcell y ++ rcsL r from rfl, List.getElem?_append_right (by show 8 ≤ _; omega), show (i + 1) * 8 + j - (rcell y).length = i * 8 + j from by show _ - 8 = _; omega]
    exact rcsL_at r i j x (by simpa using h) hj
theorem rcsL_app (l : List Rl) (x : Rl) : rcsL (l ++ [x]) = rcsL l ++ rcell x := by simp [rcsL]
theorem rcell_one (x : Rl) : ∀ u ∈ rcell x, u.oneCell' = true := by
  intro u hu
  simp [rcell] at hu
  rcases hu with rfl | rfl | rfl | rfl | rfl | rfl | rfl | rfl <;> rfl
theorem Tryz.info49' : (Tryz.prog.info? 49).map (fun i => (i.zero, i.size, i.bytes)) = some (some (.agg z8), 8, 96) := by kernel_rfl
/-- Where the loop over rules stands. -/
structure Lr (T : ByteArray) (B : Nat) (w wr : World) (g cap : Nat) (l : List Rl) (t : Tk) : Prop where
  own : wr.ownsRow w.heap.size 49 8 (.slice (some ⟨g, 0, none⟩) l.length cap) l.length (rcsL l)
  ou : ∀ r ∈ l, r.2.Ou (fun b => w.heap.size ≤ b ∧ b ≠ g) wr ∧ r.1.size ≤ T.size
  box : BoxN wr B 89 (pcells T t)
  gr : w.grownBy wr (some B)
  lt : B < w.heap.size
  gl : w.heap.size ≤ g ∧ g < wr.heap.size
theorem own8_gr {w w' : World} {base g n cap : Nat} {xs : List Value} {row : Option Nat} (h : w.ownsRow base 49 8 (.slice (some ⟨g, 0, none⟩) n cap) n xs) (hg : w.grownBy w' row) (hr : some g ≠ row) : w'.ownsRow base 49 8 (.slice (some ⟨g, 0, none⟩) n cap) n xs := by
  obtain ⟨h1, h2⟩ := h
  refine ⟨h1, ?_⟩
  rcases h2 with ⟨h2, _⟩ | ⟨g', cap', cur, hv, hb, hh, r⟩
  · cases h2
  · refine Or.inr ⟨g', cap', cur, hv, hb, ?_, r⟩
    have e : g = g' := by cases hv; rfl
    subst e
    have hlt : g < w.heap.size := (Array.getElem?_eq_some_iff.1 hh).1
    rw [hg.block g hlt hr]; exact hh
theorem Lr.call {T : ByteArray} {B : Nat} {w wr w1 : World} {g cap : Nat} {l : List Rl} {t u : Tk} (h : Lr T B w wr g cap l t) (hg : wr.grownBy w1 (some B)) (hb : BoxN w1 B 89 (pcells T u)) : Lr T B w w1 g cap l u where
  own := own8_gr h.own hg (fun e => by cases e; have := h.gl; have := h.lt; omega)
  ou := fun x hx => ⟨(h.ou x hx).1.gr hg (fun b hb _ => ⟨fun e => by cases e; have := h.lt; omega, hb⟩), (h.ou x hx).2⟩
  box := hb
  gr := gr_trans h.gr hg
  lt := h.lt
  gl := ⟨h.gl.1, Nat.lt_of_lt_of_le h.gl.2 hg.size⟩
theorem Lr.push {T : ByteArray} {B : Nat} {w w1 w3 : World} {g cap g3 cap3 N : Nat} {l : List Rl} {y : Rl} {t : Tk} (h : Lr T B w w1 g cap l t) (hN : g < N) (hy : y.2.Ou (N ≤ ·) w1) (hy1 : y.1.size ≤ T.size)
    (hown : w3.ownsRow w.heap.size 49 8 (.slice (some ⟨g3, 0, none⟩) (l.length + 1) cap3) (l.length + 1) (rcsL l ++ rcell y)) (hg : (w1.alloc (.cells (rcell y).toArray 49)).grownBy w3 (some g)) (h3 : g3 = g ∨ g3 = w1.heap.size + 1) :
    Lr T B w w3 g3 cap3 (l ++ [y]) t := by
  have hgl := h.gl
  have hlt := h.lt
  have hg0 : w1.grownBy w3 (some g) := grown_alloc _ hg
  have hsz := hg.size
  simp at hsz
  refine ⟨by rw [rcsL_app]; simpa using hown, fun x hx => ?_, h.box.kept hg0 (fun e => by cases e; omega), ?_, hlt, ?_⟩
  · rcases List.mem_append.1 hx with hx | hx
    · refine ⟨(h.ou x hx).1.gr hg0 (fun b hb hlt => ⟨fun e => by cases e; exact hb.2 rfl, hb.1, ?_⟩), (h.ou x hx).2⟩
      rcases h3 with rfl | rfl
      · exact hb.2
      · omega
    · rw [List.mem_singleton.1 hx]
      refine ⟨hy.gr hg0 (fun b hb hlt => ⟨fun e => by cases e; omega, by omega, ?_⟩), hy1⟩
      rcases h3 with rfl | rfl
      · omega
      · omega
  · exact gr_own h.gr hg0 (by omega)
  · obtain ⟨g', cap', hv, hb, hgl'⟩ := World.ownsRow.form hown (by omega)
    cases hv
    exact ⟨hb, hgl'⟩
theorem Lr.start {T : ByteArray} {B : Nat} {w w1 : World} {y : Rl} {t : Tk} (hB : B < w.heap.size) (hg : w.grownBy w1 (some B)) (hb : BoxN w1 B 89 (pcells T t)) (hy : y.2.Ou (w.heap.size ≤ ·) w1) (hy1 : y.1.size ≤ T.size) :
    Lr T B w (w1.alloc (.cells (rcell y).toArray 49)) w1.heap.size 1 [y] t := by
  have hsz := hg.size
  refine ⟨?_, fun x hx => ?_, hb.alloc _, gr_alloc hg _, hB, by omega, by simp⟩
  · have := World.ownsRow_lit (base := w.heap.size) (e := 49) (size := 8) w1 (rcell y).toArray 1 (by omega) (by unfold maxLen; omega) rfl
    simpa [rcsL] using this
  · rw [List.mem_singleton.1 hx]
    refine ⟨hy.gr (World.grownBy_alloc w1 (.cells (rcell y).toArray 49) none) (fun b hb hlt => ⟨by simp, hb, by omega⟩), hy1⟩
theorem wpList_app_ru {ops : Array Oper} {rest : List Oper} {o : Oper} {a : Act} {Q : Exit → Act → World → Prop} (hgd : o.guard = none) (s x : Operand)
    (ho : o.op = .call { callee := .builtin .append, args := #[s, x], argTypes := #[22, 22] }) {T : ByteArray} {B : Nat} {w w1 : World} {g cap N : Nat} {l : List Rl} {t : Tk} {y : Rl} (h : Lr T B w w1 g cap l t)
    (hs : a.eval s = .slice (some ⟨g, 0, none⟩) l.length cap) (hx : a.eval x = .slice (some ⟨w1.heap.size, 0, none⟩) 1 1) (hN : g < N) (hy : y.2.Ou (N ≤ ·) w1) (hy1 : y.1.size ≤ T.size) (hl : l.length ≤ 2000000)
    (hK : ∀ g3 cap3 w3, Lr T B w w3 g3 cap3 (l ++ [y]) t → wpList Tryz.prog ops Q rest (a.put o.dst (.slice (some ⟨g3, 0, none⟩) (l.length + 1) cap3)) w3) :
    wpList Tryz.prog ops Q (o :: rest) a (w1.alloc (.cells #[.string y.1, .int .i64 y.2.k, .int .u64 (wd y.2.S 0), .int .u64 (wd y.2.S 1), .int .u64 (wd y.2.S 2), .int .u64 (wd y.2.S 3), .string y.2.t, .slice y.2.a y.2.kids.length y.2.c] 49)) := by
  obtain ⟨i0, hi, hz0, hz1, hz2⟩ := info_parts Tryz.info49'
  have hgl := h.gl
  have h1 := own8_gr h.own (World.grownBy_alloc w1 (.cells (rcell y).toArray 49) none) (by simp)
  have hnews := World.news_of_block (World.alloc_heap_new w1 (.cells (rcell y).toArray 49))
  refine wpList_append_lies _ hgd s x 22 ho w.heap.size 49 i0 (.agg z8) 8 96 Tryz.underlying22 hi hz0 hz1 hz2 rfl (by decide) _ l.length (rcsL l) hs h1 ⟨w1.heap.size, 0, none⟩ 1 1 (rcell y) hx rfl hnews (rcell_one y) (by omega) (by unfold maxLen; omega) (by omega) (by simp; omega) (w1.heap.size + 1) (by simp) ?_
  intro g3 cap3 w3 hown hgr hor _
  refine hK g3 cap3 w3 (h.push hN hy hy1 hown hgr ?_)
  rcases hor with e | e
  · left; cases e; rfl
  · exact .inr e
def FineR (T : List UInt8) (n : Nat) (R : Rr) : Prop :=
  match R with
  | .ok x => x.2.of T ∧ x.2.s.length < n
  | .error s => s <:+ T
theorem ruleP_fine {T : List UInt8} (n : Nat) (t : Tk) (ht : t.of T) (hn : t.s.length < n) : FineR T t.s.length (ruleP (preP n) t) := by
  unfold ruleP
  split
  · rename_i h3
    have h1 := take3_fine ht h3
    cases hu : take t with
    | error s => rw [hu] at h1; exact h1
    | ok u =>
      rw [hu] at h1
      simp only at h1
      rw [thn_ok]
      have h2 := altP_fine (preP_fine (T := T) n) u h1.1 (by omega)
      cases hx : altP (preP n) u with
      | error s => rw [hx] at h2; exact h2
      | ok x =>
        rw [hx] at h2
        rw [thn_ok]
        exact ⟨h2.1, by have := h2.2.1; show x.2.s.length < _; omega⟩
  · exact ht.2.1
/-- What reading rules does. -/
def RsR (T : ByteArray) (B : Nat) (w : World) (R : Except (List UInt8) (List Rl × Tk)) (e : Ending) (w' : World) : Prop :=
  match R with
  | .ok x => (∃ (g cap : Nat) (l : List Rl), e = .returned (.slice (some ⟨g, 0, none⟩) l.length cap) ∧ l.map er2 = x.1 ∧ l.length ≤ T.size + 1 ∧ Lr T B w w' g cap l x.2)
  | .error s => e = thrown T.size s ∧ w.grownBy w' (some B)
set_option maxRecDepth 20000 in
set_option maxHeartbeats 8000000 in
theorem rules_does (T : ByteArray) (B n : Nat) (hT : T.size ≤ 1000000) (t : Tk) (w : World) (ht : t.of T.data.toList) (hn : t.s.length < n) (hB : BoxN w B 89 (pcells T t)) :
    Calls Tryz.prog 24 #[.pointer (some ⟨B, 0, none⟩)] w fun e w' => RsR T B w (rulesP (preP n) t) e w' := by
  have hBl := hB.lt
  have h1 := rule_does T B n hT t w ht hn hB
  have hfine := ruleP_fine n t ht hn
  have hsl := ht.2.1.length_le
  rw [llen] at hsl
  unfold rulesP
  cases hp : ruleP (preP n) t with
  | error s =>
    rw [hp] at h1
    rw [thn_error]
    unfold RuR at h1
    unfold RsR
    simp only at h1 ⊢
    unfold thrown at h1 ⊢
    clear hp hfine ht hB
    go_enter Tryz.func24, Tryz.ntmps24
    go_wp2_with (go_at_call 50; refine h1.mono ?_; rintro e w1 ⟨rfl, hg1⟩)
    exact ⟨rfl, rfl, hg1⟩
  | ok x =>
    rw [hp] at h1 hfine
    rw [thn_ok]
    unfold RuR at h1
    simp only at h1
    obtain ⟨hx1, hx2⟩ := hfine
    generalize hR : rulesL (preP n) x.2.s.length [x.1] x.2 = R
    have HR : Hid (rulesL (preP n) x.2.s.length [x.1] x.2 = R) := hR
    have HX : Hid (x.2.of T.data.toList ∧ x.2.s.length < t.s.length ∧ t.s.length < n ∧ t.s.length ≤ T.size) := ⟨hx1, hx2, hn, hsl⟩
    clear hx1 hx2 hp hn ht hsl hR hB
    go_enter Tryz.func24, Tryz.ntmps24
    go_wp2_with (go_at_call 50; refine h1.mono ?_; rintro e w1 ⟨⟨y, rfl, hye, hyn, hyo⟩, hb1, hg1⟩; have L0 := Lr.start hBl hg1 hb1 hyo hyn; rw [rcell_eq] at L0; clear hg1 hb1 hyo h1)
    go_loopg [3] x.2.s.length (fun g v wr => ∃ (gb cap : Nat) (l : List Rl) (u : Tk), v = .slice (some ⟨gb, 0, none⟩) l.length cap ∧ Hid (Lr T B w wr gb cap l u) ∧ Hid (u.of T.data.toList ∧ u.s.length ≤ g ∧ u.s.length < n ∧ 1 ≤ l.length ∧ l.length + u.s.length ≤ T.size + 1 ∧ rulesL (preP n) g (l.map er2) u = R))
    case atStart =>
      refine ⟨w1.heap.size, 1, [y], x.2, rfl, L0, HX.out.1, Nat.le_refl _, by have := HX.out; omega, by simp, by have := HX.out; simp; omega, ?_⟩
      rw [← HR.out, ← hye]; rfl
    case round =>
      clear L0 HR hye
      obtain ⟨gb, cap, l, u, rfl, HL, HU⟩ := hrel
      have hcb := HL.out.box.cell
      rw [pcells_eq] at hcb
      have hll : l.length ≤ 2000000 := by have := HU.out; omega
      by_cases hk0 : u.k = 0
      · have g0 : ((u.k.toNat : Int) != 0) = false := by rw [hk0]; rfl
        have hRe : R = .ok (l.map er2, u) := by
          have := HU.out.2.2.2.2.2
          cases gk with
          | zero => exact this.symm
          | succ g => rw [rulesL, if_pos hk0] at this; exact this.symm
        subst hRe
        clear hk0
        go_wp2_with fail
        go_ret
        exact ⟨gb, cap, l, rfl, rfl, by have := HU.out; omega, HL.out⟩
      · have g0 : ((u.k.toNat : Int) != 0) = true := by
          rw [bne_iff_ne]
          intro e
          exact hk0 (UInt8.toNat_inj.1 (by show u.k.toNat = 0; omega))
        cases gk with
        | zero =>
          exfalso
          have h0 : u.s = [] := List.eq_nil_of_length_eq_zero (by have := HU.out; omega)
          have h2 := (tokS_end u.s).2 h0
          rw [← HU.out.1.1] at h2
          exact hk0 h2
        | succ g =>
          have hru := rule_does T B n hT u wr HU.out.1 HU.out.2.2.1 HL.out.box
          have hfin := ruleP_fine n u HU.out.1 HU.out.2.2.1
          have hstep : Hid (thn (ruleP (preP n) u) (fun x => rulesL (preP n) g (l.map er2 ++ [x.1]) x.2) = R) := by
            have := HU.out.2.2.2.2.2
            rw [rulesL, if_neg hk0] at this
            exact this
          clear hk0
          cases hp : ruleP (preP n) u with
          | error s =>
            have hRe : R = .error s := by have := hstep.out; rw [hp, thn_error] at this; exact this.symm
            subst hRe
            rw [hp] at hru
            unfold RuR at hru
            simp only at hru
            unfold thrown at hru
            clear hfin hp hstep
            go_wp2_with (go_at_call 50; refine hru.mono ?_; rintro e w3 ⟨rfl, hg3⟩)
            exact ⟨rfl, rfl, gr_trans HL.out.gr hg3⟩
          | ok z =>
            have hst2 : Hid (rulesL (preP n) g (l.map er2 ++ [z.1]) z.2 = R) := by have := hstep.out; rw [hp, thn_ok] at this; exact this
            rw [hp] at hru hfin
            unfold RuR at hru
            simp only at hru
            have HF : Hid (FineR T.data.toList u.s.length (.ok z)) := hfin
            clear hfin hp hstep
            go_wp2_with (first
              | (go_at_call 50; refine hru.mono ?_; rintro e w3 ⟨⟨y, rfl, hye, hyn, hyo⟩, hb3, hg3⟩; have L3 : Hid _ := HL.out.call hg3 hb3; have HYO : Hid _ := hyo; clear hyo hb3 hg3 hru)
              | (at_builtin; refine wpList_app_ru rfl _ _ rfl L3.out rfl rfl HL.out.gl.2 HYO.out hyn hll ?_; intro g4 cap4 w4 L4))
            go_roundg g
            case measure => omega
            case rel =>
              refine ⟨g4, cap4, l ++ [y], z.2, by simp, L4, HF.out.1, ?_, ?_, by simp, ?_, ?_⟩
              · have h1 := HF.out.2; have h2 := HU.out.2.1; omega
              · have h1 := HF.out.2; have h2 := HU.out.2.2.1; omega
              · have h1 := HF.out.2; have h2 := HU.out.2.2.2.2.1; simp; omega
              · rw [List.map_append, List.map_cons, List.map_nil, hye]; exact hst2.out
end Go.Proofs.YtbeohmcmphebhaaGreatDoor
