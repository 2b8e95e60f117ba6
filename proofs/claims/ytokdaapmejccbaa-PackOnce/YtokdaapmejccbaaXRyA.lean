import Derived.Test.YtokdaapmejccbaaXPegV
import Derived.Test.YtokdaapmejccbaaXGrow
import Derived.WalkKit
import Derived.Below
import Derived.Test.YtokdaapmejccbaaXRbi
import Derived.Deep.QuietTactic
import Derived.BigQuiet
import Derived.BigRegion
import Derived.Test.YtokdaapmejccbaaXRma
import Derived.Test.YtokdaapmejccbaaXMayW
import Derived.Test.YtokdaapmejccbaaXEq
namespace Go.Proofs.Ytokdaapmejccbaa
open Go.RowKit
set_option linter.unusedVariables false
/-! Which byte is missed, and where. -/
/-- How many bytes of t stand there. -/
def mmE : List UInt8 → List UInt8 → Nat
  | [], _ => 0
  | _ :: _, [] => 0
  | c :: t, d :: r => if c = d then 1 + mmE t r else 0
theorem mmE_le : ∀ t r : List UInt8, mmE t r ≤ t.length ∧ mmE t r ≤ r.length
  | [], r => by simp [mmE]
  | _ :: _, [] => by simp [mmE]
  | c :: t, d :: r => by
    rw [mmE]
    have := mmE_le t r
    split
    · simp only [List.length_cons]; omega
    · simp
theorem mmE_ne : ∀ (t r : List UInt8) (c d : UInt8), t[mmE t r]? = some c → r[mmE t r]? = some d → c ≠ d
  | [], r, c, d, h, _ => by simp at h
  | _ :: _, [], c, d, _, h => by simp at h
  | x :: t, y :: r, c, d, h, k => by
    rw [mmE] at h k
    by_cases e : x = y
    · rw [if_pos e, Nat.add_comm, List.getElem?_cons_succ] at h k
      exact mmE_ne t r c d h k
    · rw [if_neg e] at h k
      rw [List.getElem?_cons_zero] at h k
      cases h; cases k
      exact e
theorem mmE_full : ∀ t r : List UInt8, mmE t r = t.length ↔ r.take t.length = t
  | [], r => by simp [mmE]
  | c :: t, [] => by simp [mmE]
  | c :: t, d :: r => by
    rw [mmE]
    by_cases e : c = d
    · rw [if_pos e, List.length_cons, List.take_succ_cons, e]
      have := mmE_full t r
      constructor
      · intro h; rw [this.1 (by omega)]
      · intro h; have := this.2 (List.cons.inj h).2; omega
    · rw [if_neg e, List.length_cons, List.take_succ_cons]
      constructor
      · intro h; omega
      · intro h; exact absurd (List.cons.inj h).1.symm e
/-- What a leaf that fails misses. -/
def missE (s : List UInt8) (e : Ex) (p : Nat) : Option (Nat × BitVec 256) :=
  if leafE s e p ≠ none then none
  else if e.k = 2 then some (p, e.S)
  else if e.k = 3 then some (p + mmE e.t.data.toList (s.drop p), 1#256 <<< (e.t.data.toList.getD (mmE e.t.data.toList (s.drop p)) 0).toNat)
  else none
def farStep (s : List UInt8) (a : Int × BitVec 256) (x : Nt) : Int × BitVec 256 :=
  match missE s x.2 x.1.2 with
  | none => a
  | some (q, S) => if a.1 < q then (q, S) else if a.1 = q then (a.1, a.2 ||| S) else a
def farOf (s : List UInt8) (l : List Nt) : Int × BitVec 256 := l.foldl (farStep s) (-1, 0#256)
theorem farOf_app (s : List UInt8) (l m : List Nt) : farOf s (l ++ m) = m.foldl (farStep s) (farOf s l) := by unfold farOf; rw [List.foldl_append]
/-- What is so of a far place. -/
structure FarOk (s : List UInt8) (a : Int × BitVec 256) : Prop where
  lo : -1 ≤ a.1
  hi : a.1 ≤ s.length
  no : a.1 = -1 → a.2 = 0#256
  ne : ∀ (n : Nat) (c : UInt8), a.1 = (n : Int) → s[n]? = some c → a.2.getLsbD c.toNat = false
theorem leaf3 {s : List UInt8} {e : Ex} {p : Nat} (h3 : e.k = 3) (hl : leafE s e p = none) : mmE e.t.data.toList (s.drop p) < e.t.data.toList.length := by
  have hle := (mmE_le e.t.data.toList (s.drop p)).1
  rcases Nat.lt_or_ge (mmE e.t.data.toList (s.drop p)) e.t.data.toList.length with h | h
  · exact h
  · have := (mmE_full e.t.data.toList (s.drop p)).1 (by omega)
    unfold leafE at hl
    rw [if_neg (by omega), if_neg (by omega), show e.t.size = e.t.data.toList.length from rfl, if_pos this] at hl
    cases hl
theorem one_bit (i j : Nat) (hj : j < 256) (hne : i ≠ j) : (1#256 <<< i).getLsbD j = false := by
  rw [BitVec.getLsbD_shiftLeft]
  by_cases h : j < i
  · simp [h]
  · have : j - i ≠ 0 := by omega
    simp only [BitVec.getLsbD_one]
    simp
    omega
theorem miss_ok {s : List UInt8} {e : Ex} {p q : Nat} {S : BitVec 256} (hp : p ≤ s.length) (h : missE s e p = some (q, S)) : q ≤ s.length ∧ ∀ c, s[q]? = some c → S.getLsbD c.toNat = false := by
  unfold missE at h
  by_cases hl : leafE s e p = none
  · rw [if_neg (by simp [hl])] at h
    by_cases h2 : e.k = 2
    · rw [if_pos h2] at h
      simp only [Option.some.injEq, Prod.mk.injEq] at h
      obtain ⟨rfl, rfl⟩ := h
      refine ⟨hp, fun c hc => ?_⟩
      unfold leafE at hl
      rw [if_neg (by omega), if_pos h2, hc] at hl
      simp only at hl
      by_cases hb : e.S.getLsbD c.toNat = true
      · rw [if_pos hb] at hl; cases hl
      · simpa using hb
    rw [if_neg h2] at h
    by_cases h3 : e.k = 3
    · rw [if_pos h3] at h
      simp only [Option.some.injEq, Prod.mk.injEq] at h
      obtain ⟨rfl, rfl⟩ := h
      have hle := mmE_le e.t.data.toList (s.drop p)
      rw [List.length_drop] at hle
      refine ⟨by omega, fun c hc => ?_⟩
      have hlt := leaf3 h3 hl
      obtain ⟨d, hd⟩ : ∃ d, e.t.data.toList[mmE e.t.data.toList (s.drop p)]? = some d := ⟨_, List.getElem?_eq_getElem hlt⟩
      have hne := mmE_ne e.t.data.toList (s.drop p) d c hd (by rw [List.getElem?_drop]; exact hc)
      rw [List.getD_eq_getElem?_getD, hd]
      exact one_bit _ _ c.toNat_lt fun e0 => hne (UInt8.toNat_inj.1 e0)
    · rw [if_neg h3] at h; cases h
  · rw [if_pos hl] at h; cases h
theorem FarOk.step {s : List UInt8} {a : Int × BitVec 256} (h : FarOk s a) {x : Nt} (hx : x.1.2 ≤ s.length) : FarOk s (farStep s a x) := by
  unfold farStep
  cases hm : missE s x.2 x.1.2 with
  | none => exact h
  | some y =>
    obtain ⟨q, S⟩ := y
    obtain ⟨h1, h2⟩ := miss_ok hx hm
    simp only
    by_cases h3 : a.1 < q
    · rw [if_pos h3]
      exact ⟨by show (-1 : Int) ≤ q; omega, by show (q : Int) ≤ s.length; omega, fun e => by have : (q : Int) = -1 := e; omega, fun n c hn hc => h2 c (by have : (q : Int) = n := hn; rw [show q = n from by omega]; exact hc)⟩
    rw [if_neg h3]
    by_cases h4 : a.1 = q
    · rw [if_pos h4]
      refine ⟨h.lo, h.hi, fun e => by have : a.1 = -1 := e; omega, fun n c hn hc => ?_⟩
      have hn' : a.1 = n := hn
      show (a.2 ||| S).getLsbD c.toNat = false
      rw [BitVec.getLsbD_or, h.ne n c hn' hc, h2 c (by rw [show q = n from by omega]; exact hc)]
      rfl
    · rw [if_neg h4]; exact h
theorem far_ok {s : List UInt8} : ∀ (l : List Nt) (a : Int × BitVec 256), FarOk s a → (∀ x ∈ l, x.1.2 ≤ s.length) → FarOk s (l.foldl (farStep s) a)
  | [], a, h, _ => h
  | x :: l, a, h, hx => far_ok l _ (h.step (hx x (List.mem_cons_self ..))) fun y hy => hx y (List.mem_cons_of_mem _ hy)
theorem far_start (s : List UInt8) : FarOk s (-1, 0#256) := ⟨by decide, by show (-1 : Int) ≤ s.length; omega, fun _ => rfl, fun n c h _ => by have : (-1 : Int) = n := h; omega⟩
theorem far_ge {s : List UInt8} : ∀ (l : List Nt) (a : Int × BitVec 256), a.1 ≤ (l.foldl (farStep s) a).1
  | [], a => Int.le_refl _
  | x :: l, a => by
    have h1 : a.1 ≤ (farStep s a x).1 := by
      unfold farStep
      cases missE s x.2 x.1.2 with
      | none => exact Int.le_refl _
      | some y =>
        obtain ⟨q, S⟩ := y
        simp only
        split
        · show a.1 ≤ (q : Int); omega
        split <;> exact Int.le_refl _
    exact Int.le_trans h1 (far_ge l _)
/-- Where something is missed there is a place. -/
theorem far_some {s : List UInt8} : ∀ (l : List Nt) (a : Int × BitVec 256) (x : Nt) (q : Nat) (S : BitVec 256), x ∈ l → missE s x.2 x.1.2 = some (q, S) → (q : Int) ≤ (l.foldl (farStep s) a).1
  | y :: l, a, x, q, S, hx, hm => by
    rcases List.mem_cons.1 hx with rfl | hx
    · have h1 : (q : Int) ≤ (farStep s a x).1 := by
        unfold farStep
        rw [hm]
        simp only
        split
        · exact Int.le_refl _
        split
        · rename_i h1 h2; show (q : Int) ≤ a.1; omega
        · rename_i h1 h2; show (q : Int) ≤ a.1; omega
      exact Int.le_trans h1 (far_ge l _)
    · exact far_some l _ x q S hx hm
theorem miss_of_leaf {s : List UInt8} {e : Ex} {p : Nat} (hk : e.k = 2 ∨ e.k = 3) (hl : leafE s e p = none) : ∃ q S, missE s e p = some (q, S) := by
  unfold missE
  rw [if_neg (by simp [hl])]
  rcases hk with h | h
  · rw [if_pos h]; exact ⟨_, _, rfl⟩
  · rw [if_neg (by omega), if_pos h]; exact ⟨_, _, rfl⟩
end Go.Proofs.Ytokdaapmejccbaa
namespace Go.Proofs.Ytokdaapmejccbaa
open Go.RowKit
set_option linter.unusedVariables false
set_option linter.unusedSimpArgs false
/-- What Facts answers. -/
def FactsR (all : List (ByteArray × Ex)) (n : Nat) (W : World) (v : Value) : Prop :=
  if gcheck all = 0 then ∃ B m, v = .slice (some ⟨B, 0, none⟩) all.length all.length ∧ n ≤ B ∧ Fx W B m ∧ Least fLe all.length (mst all) m else v = .slice none 0 0
set_option maxRecDepth 20000 in
set_option maxHeartbeats 4000000 in
theorem facts_any (g : Gr) (w : World) (hin : g.In w.heap.size w) :
    Calls Try.prog 24 #[g.val] w fun r W' => ∃ v, r = .returned (.tuple #[v, .int .i64 (gcheck g.rules)]) ∧ FactsR g.rules w.heap.size W' v ∧ Below w.heap.size w W' := by
  have hA := (Below.refl w.heap.size w).alloc (Nat.le_refl _) (.cells #[.slice g.a g.rules.length g.c] 24)
  have bG := BoxN.new w 24 #[.slice g.a g.rules.length g.c]
  have hck := gcheck_any g _ (hin.grow hA)
  have HN : Hid (∀ {W}, Below (w.alloc (.cells #[.slice g.a g.rules.length g.c] 24)).heap.size (w.alloc (.cells #[.slice g.a g.rules.length g.c] 24)) W → Below w.heap.size w W ∧ BoxN W w.heap.size 24 #[.slice g.a g.rules.length g.c]) := fun h => ⟨hA.trans (h.mono hA.size), bG.below h (by simp)⟩
  have HI : Hid (g.In w.heap.size w) := hin
  have HG : Hid (gcheck g.rules = 0 → GOk g.rules) := gcheck_ok
  rw [gval_eq] at hck ⊢
  unfold FactsR
  generalize gcheck g.rules = C at *
  clear hA bG hin
  by_cases h0 : C = 0
  · subst h0
    simp only [↓reduceIte]
    have hok := HG.out rfl
    have hgr : ∀ W, Below w.heap.size w W → _ := fun W h => grow_any g hok W (HI.out.grow h)
    rw [gval_eq] at hgr
    clear HG
    go_enter Try.func24, Try.ntmps24
    go_wp2_with (first
      | (go_at_call 31; refine hck.mono ?_; rintro e W1 ⟨rfl, hb1⟩; have k1 := HN.out hb1; have c1 := k1.2.cell 0; simp only [List.getElem?_toArray, List.getElem?_cons_zero] at c1; clear hb1 hck)
      | (go_at_call 50; refine (hgr _ k1.1).mono ?_; rintro e W2 ⟨B, m, rfl, hB, hF, hL, hb2⟩))
    refine bodyPost_ret (by simp [results, Try.results24, go_sem]) rfl ⟨_, rfl, ⟨_, _, rfl, Nat.le_trans k1.1.size hB, hF, hL⟩, k1.1.trans (hb2.mono k1.1.size)⟩
  · simp only [h0, ↓reduceIte]
    have g1 : (C != 0) = true := by simpa using h0
    go_enter Try.func24, Try.ntmps24
    go_wp2_with (go_at_call 31; refine hck.mono ?_; rintro e W1 ⟨rfl, hb1⟩; have k1 := HN.out hb1; clear hb1 hck)
    refine bodyPost_ret (by simp [results, Try.results24, go_sem]) rfl ⟨_, rfl, rfl, k1.1⟩
end Go.Proofs.Ytokdaapmejccbaa
namespace Go.Proofs.Ytokdaapmejccbaa
open Go.RowKit
set_option linter.unusedVariables false
set_option linter.unusedSimpArgs false
set_option maxRecDepth 20000 in
set_option maxHeartbeats 4000000 in
theorem mayOne_0 (b : Fa) (n : Nat) (B o c : Nat) (w : World) (hc : n + 2 ≤ c) (hn : n ≤ 100) (c0 : w.cell? ⟨B, o, none⟩ = some (.int .i64 0))
    (hf : ∀ W, Below w.heap.size w W → Calls Try.prog 102 #[.slice (some ⟨B, o + 1, none⟩) (n + 1) (c - 1)] W fun r W' => r = .returned (.int .i64 (encF b)) ∧ Below W.heap.size W W') :
    Calls Try.prog 102 #[.slice (some ⟨B, o, none⟩) (n + 2) c] w fun r W' => r = .returned (.int .i64 (encF (orF (false, false, false) b))) ∧ Below w.heap.size w W' := by
  have hz : encF (orF (false, false, false) b) = 0 := by obtain ⟨b1, b2, b3⟩ := b; cases b1 <;> cases b2 <;> cases b3 <;> rfl
  rw [hz]
  have g1 : ((n : Int) + 2 == 1) = false := by rw [beq_eq_false_iff_ne]; omega
  have i0 : (0 : Int) < (n : Int) + 2 := by omega
  go_enter Try.func102, Try.ntmps102
  go_wp2_with fail
  go_ret
  exact ⟨rfl, Below.refl _ _⟩
set_option maxRecDepth 20000 in
set_option maxHeartbeats 4000000 in
theorem mayOne_1 (b : Fa) (n : Nat) (B o c : Nat) (w : World) (hc : n + 2 ≤ c) (hn : n ≤ 100) (c0 : w.cell? ⟨B, o, none⟩ = some (.int .i64 1))
    (hf : ∀ W, Below w.heap.size w W → Calls Try.prog 102 #[.slice (some ⟨B, o + 1, none⟩) (n + 1) (c - 1)] W fun r W' => r = .returned (.int .i64 (encF b)) ∧ Below W.heap.size W W') :
    Calls Try.prog 102 #[.slice (some ⟨B, o, none⟩) (n + 2) c] w fun r W' => r = .returned (.int .i64 (encF (orF (true, false, false) b))) ∧ Below w.heap.size w W' := by
  have hz : encF (orF (true, false, false) b) = 1 := by obtain ⟨b1, b2, b3⟩ := b; cases b1 <;> cases b2 <;> cases b3 <;> rfl
  rw [hz]
  have g1 : ((n : Int) + 2 == 1) = false := by rw [beq_eq_false_iff_ne]; omega
  have i0 : (0 : Int) < (n : Int) + 2 := by omega
  go_enter Try.func102, Try.ntmps102
  go_wp2_with fail
  go_ret
  exact ⟨rfl, Below.refl _ _⟩
set_option maxRecDepth 20000 in
set_option maxHeartbeats 4000000 in
theorem mayOne_2 (b : Fa) (n : Nat) (B o c : Nat) (w : World) (hc : n + 2 ≤ c) (hn : n ≤ 100) (c0 : w.cell? ⟨B, o, none⟩ = some (.int .i64 2))
    (hf : ∀ W, Below w.heap.size w W → Calls Try.prog 102 #[.slice (some ⟨B, o + 1, none⟩) (n + 1) (c - 1)] W fun r W' => r = .returned (.int .i64 (encF b)) ∧ Below W.heap.size W W') :
    Calls Try.prog 102 #[.slice (some ⟨B, o, none⟩) (n + 2) c] w fun r W' => r = .returned (.int .i64 (encF (orF (false, true, false) b))) ∧ Below w.heap.size w W' := by
  have hz : encF (orF (false, true, false) b) = 2 := by obtain ⟨b1, b2, b3⟩ := b; cases b1 <;> cases b2 <;> cases b3 <;> rfl
  rw [hz]
  have g1 : ((n : Int) + 2 == 1) = false := by rw [beq_eq_false_iff_ne]; omega
  have i0 : (0 : Int) < (n : Int) + 2 := by omega
  go_enter Try.func102, Try.ntmps102
  go_wp2_with fail
  go_ret
  exact ⟨rfl, Below.refl _ _⟩
set_option maxRecDepth 20000 in
set_option maxHeartbeats 4000000 in
theorem mayOne_3 (b : Fa) (n : Nat) (B o c : Nat) (w : World) (hc : n + 2 ≤ c) (hn : n ≤ 100) (c0 : w.cell? ⟨B, o, none⟩ = some (.int .i64 3))
    (hf : ∀ W, Below w.heap.size w W → Calls Try.prog 102 #[.slice (some ⟨B, o + 1, none⟩) (n + 1) (c - 1)] W fun r W' => r = .returned (.int .i64 (encF b)) ∧ Below W.heap.size W W') :
    Calls Try.prog 102 #[.slice (some ⟨B, o, none⟩) (n + 2) c] w fun r W' => r = .returned (.int .i64 (encF (orF (true, true, false) b))) ∧ Below w.heap.size w W' := by
  have hz : encF (orF (true, true, false) b) = 3 := by obtain ⟨b1, b2, b3⟩ := b; cases b1 <;> cases b2 <;> cases b3 <;> rfl
  rw [hz]
  have g1 : ((n : Int) + 2 == 1) = false := by rw [beq_eq_false_iff_ne]; omega
  have i0 : (0 : Int) < (n : Int) + 2 := by omega
  go_enter Try.func102, Try.ntmps102
  go_wp2_with fail
  go_ret
  exact ⟨rfl, Below.refl _ _⟩
set_option maxRecDepth 20000 in
set_option maxHeartbeats 4000000 in
theorem mayOne_4 (b : Fa) (n : Nat) (B o c : Nat) (w : World) (hc : n + 2 ≤ c) (hn : n ≤ 100) (c0 : w.cell? ⟨B, o, none⟩ = some (.int .i64 4))
    (hf : ∀ W, Below w.heap.size w W → Calls Try.prog 102 #[.slice (some ⟨B, o + 1, none⟩) (n + 1) (c - 1)] W fun r W' => r = .returned (.int .i64 (encF b)) ∧ Below W.heap.size W W') :
    Calls Try.prog 102 #[.slice (some ⟨B, o, none⟩) (n + 2) c] w fun r W' => r = .returned (.int .i64 (encF (orF (false, false, true) b))) ∧ Below w.heap.size w W' := by
  have hz : bits .or .i64 0 (encF b) = encF (orF (false, false, true) b) := by obtain ⟨b1, b2, b3⟩ := b; cases b1 <;> cases b2 <;> cases b3 <;> rfl
  have g1 : ((n : Int) + 2 == 1) = false := by rw [beq_eq_false_iff_ne]; omega
  have i0 : (0 : Int) < (n : Int) + 2 := by omega
  have i1 : (1 : Int) ≤ (n : Int) + 2 := by omega
  have i2 : (n : Int) + 2 ≤ (c : Int) := by omega
  have i3 : ¬ c = 1 := by omega
  have hB := World.block_lt_of_cell? w _ c0
  have hc0 : Hid (∀ W, Below w.heap.size w W → W.cell? ⟨B, o, none⟩ = w.cell? ⟨B, o, none⟩) := fun W hb => hb.cell (p := ⟨B, o, none⟩) hB
  go_enter Try.func102, Try.ntmps102
  go_wp2_with fail
  refine wp_region_lit (fun W => Below w.heap.size w W) _ _ (by kernel_rfl) rfl (by kernel_rfl) (by kernel_rfl) (below_drew1 (Below.refl _ w)) ?_
  dsimp only [List.dropLast]
  repeat (first
    | go_big_quiet_skip
    | (go_big_quiet_want
       apply Exists.intro
       refine ⟨fun W hW => ?_, ?_⟩
       · have q0 := (hc0.out W hW).trans c0
         unfold Oper.quietAt
         go_simp
         first
           | with_reducible exact rfl
           | with_reducible exact ⟨rfl, rfl⟩
           | (go_at_call 102
              refine (hf W hW).mono ?_
              rintro e W1 ⟨rfl, hb⟩
              exact ⟨rfl, hW.trans (hb.mono hW.size)⟩)
       go_big_quiet_on
       simp only [Act.put, List.setIfInBounds_toArray, List.set_cons_zero, List.set_cons_succ]))
  refine wpQuiet_nil ?_
  intro W hW
  rw [if_pos (by rfl)]
  go_simp
  clear hc0 hf c0 hB
  go_wp2_with fail
  go_ret
  exact ⟨by rw [← hz]; rfl, hW⟩
set_option maxRecDepth 20000 in
set_option maxHeartbeats 4000000 in
theorem mayOne_5 (b : Fa) (n : Nat) (B o c : Nat) (w : World) (hc : n + 2 ≤ c) (hn : n ≤ 100) (c0 : w.cell? ⟨B, o, none⟩ = some (.int .i64 5))
    (hf : ∀ W, Below w.heap.size w W → Calls Try.prog 102 #[.slice (some ⟨B, o + 1, none⟩) (n + 1) (c - 1)] W fun r W' => r = .returned (.int .i64 (encF b)) ∧ Below W.heap.size W W') :
    Calls Try.prog 102 #[.slice (some ⟨B, o, none⟩) (n + 2) c] w fun r W' => r = .returned (.int .i64 (encF (orF (true, false, true) b))) ∧ Below w.heap.size w W' := by
  have hz : bits .or .i64 1 (encF b) = encF (orF (true, false, true) b) := by obtain ⟨b1, b2, b3⟩ := b; cases b1 <;> cases b2 <;> cases b3 <;> rfl
  have g1 : ((n : Int) + 2 == 1) = false := by rw [beq_eq_false_iff_ne]; omega
  have i0 : (0 : Int) < (n : Int) + 2 := by omega
  have i1 : (1 : Int) ≤ (n : Int) + 2 := by omega
  have i2 : (n : Int) + 2 ≤ (c : Int) := by omega
  have i3 : ¬ c = 1 := by omega
  have hB := World.block_lt_of_cell? w _ c0
  have hc0 : Hid (∀ W, Below w.heap.size w W → W.cell? ⟨B, o, none⟩ = w.cell? ⟨B, o, none⟩) := fun W hb => hb.cell (p := ⟨B, o, none⟩) hB
  go_enter Try.func102, Try.ntmps102
  go_wp2_with fail
  refine wp_region_lit (fun W => Below w.heap.size w W) _ _ (by kernel_rfl) rfl (by kernel_rfl) (by kernel_rfl) (below_drew1 (Below.refl _ w)) ?_
  dsimp only [List.dropLast]
  repeat (first
    | go_big_quiet_skip
    | (go_big_quiet_want
       apply Exists.intro
       refine ⟨fun W hW => ?_, ?_⟩
       · have q0 := (hc0.out W hW).trans c0
         unfold Oper.quietAt
         go_simp
         first
           | with_reducible exact rfl
           | with_reducible exact ⟨rfl, rfl⟩
           | (go_at_call 102
              refine (hf W hW).mono ?_
              rintro e W1 ⟨rfl, hb⟩
              exact ⟨rfl, hW.trans (hb.mono hW.size)⟩)
       go_big_quiet_on
       simp only [Act.put, List.setIfInBounds_toArray, List.set_cons_zero, List.set_cons_succ]))
  refine wpQuiet_nil ?_
  intro W hW
  rw [if_pos (by rfl)]
  go_simp
  clear hc0 hf c0 hB
  go_wp2_with fail
  go_ret
  exact ⟨by rw [← hz]; rfl, hW⟩
set_option maxRecDepth 20000 in
set_option maxHeartbeats 4000000 in
theorem mayOne_6 (b : Fa) (n : Nat) (B o c : Nat) (w : World) (hc : n + 2 ≤ c) (hn : n ≤ 100) (c0 : w.cell? ⟨B, o, none⟩ = some (.int .i64 6))
    (hf : ∀ W, Below w.heap.size w W → Calls Try.prog 102 #[.slice (some ⟨B, o + 1, none⟩) (n + 1) (c - 1)] W fun r W' => r = .returned (.int .i64 (encF b)) ∧ Below W.heap.size W W') :
    Calls Try.prog 102 #[.slice (some ⟨B, o, none⟩) (n + 2) c] w fun r W' => r = .returned (.int .i64 (encF (orF (false, true, true) b))) ∧ Below w.heap.size w W' := by
  have hz : bits .or .i64 2 (encF b) = encF (orF (false, true, true) b) := by obtain ⟨b1, b2, b3⟩ := b; cases b1 <;> cases b2 <;> cases b3 <;> rfl
  have g1 : ((n : Int) + 2 == 1) = false := by rw [beq_eq_false_iff_ne]; omega
  have i0 : (0 : Int) < (n : Int) + 2 := by omega
  have i1 : (1 : Int) ≤ (n : Int) + 2 := by omega
  have i2 : (n : Int) + 2 ≤ (c : Int) := by omega
  have i3 : ¬ c = 1 := by omega
  have hB := World.block_lt_of_cell? w _ c0
  have hc0 : Hid (∀ W, Below w.heap.size w W → W.cell? ⟨B, o, none⟩ = w.cell? ⟨B, o, none⟩) := fun W hb => hb.cell (p := ⟨B, o, none⟩) hB
  go_enter Try.func102, Try.ntmps102
  go_wp2_with fail
  refine wp_region_lit (fun W => Below w.heap.size w W) _ _ (by kernel_rfl) rfl (by kernel_rfl) (by kernel_rfl) (below_drew1 (Below.refl _ w)) ?_
  dsimp only [List.dropLast]
  repeat (first
    | go_big_quiet_skip
    | (go_big_quiet_want
       apply Exists.intro
       refine ⟨fun W hW => ?_, ?_⟩
       · have q0 := (hc0.out W hW).trans c0
         unfold Oper.quietAt
         go_simp
         first
           | with_reducible exact rfl
           | with_reducible exact ⟨rfl, rfl⟩
           | (go_at_call 102
              refine (hf W hW).mono ?_
              rintro e W1 ⟨rfl, hb⟩
              exact ⟨rfl, hW.trans (hb.mono hW.size)⟩)
       go_big_quiet_on
       simp only [Act.put, List.setIfInBounds_toArray, List.set_cons_zero, List.set_cons_succ]))
  refine wpQuiet_nil ?_
  intro W hW
  rw [if_pos (by rfl)]
  go_simp
  clear hc0 hf c0 hB
  go_wp2_with fail
  go_ret
  exact ⟨by rw [← hz]; rfl, hW⟩
set_option maxRecDepth 20000 in
set_option maxHeartbeats 4000000 in
theorem mayOne_7 (b : Fa) (n : Nat) (B o c : Nat) (w : World) (hc : n + 2 ≤ c) (hn : n ≤ 100) (c0 : w.cell? ⟨B, o, none⟩ = some (.int .i64 7))
    (hf : ∀ W, Below w.heap.size w W → Calls Try.prog 102 #[.slice (some ⟨B, o + 1, none⟩) (n + 1) (c - 1)] W fun r W' => r = .returned (.int .i64 (encF b)) ∧ Below W.heap.size W W') :
    Calls Try.prog 102 #[.slice (some ⟨B, o, none⟩) (n + 2) c] w fun r W' => r = .returned (.int .i64 (encF (orF (true, true, true) b))) ∧ Below w.heap.size w W' := by
  have hz : bits .or .i64 3 (encF b) = encF (orF (true, true, true) b) := by obtain ⟨b1, b2, b3⟩ := b; cases b1 <;> cases b2 <;> cases b3 <;> rfl
  have g1 : ((n : Int) + 2 == 1) = false := by rw [beq_eq_false_iff_ne]; omega
  have i0 : (0 : Int) < (n : Int) + 2 := by omega
  have i1 : (1 : Int) ≤ (n : Int) + 2 := by omega
  have i2 : (n : Int) + 2 ≤ (c : Int) := by omega
  have i3 : ¬ c = 1 := by omega
  have hB := World.block_lt_of_cell? w _ c0
  have hc0 : Hid (∀ W, Below w.heap.size w W → W.cell? ⟨B, o, none⟩ = w.cell? ⟨B, o, none⟩) := fun W hb => hb.cell (p := ⟨B, o, none⟩) hB
  go_enter Try.func102, Try.ntmps102
  go_wp2_with fail
  refine wp_region_lit (fun W => Below w.heap.size w W) _ _ (by kernel_rfl) rfl (by kernel_rfl) (by kernel_rfl) (below_drew1 (Below.refl _ w)) ?_
  dsimp only [List.dropLast]
  repeat (first
    | go_big_quiet_skip
    | (go_big_quiet_want
       apply Exists.intro
       refine ⟨fun W hW => ?_, ?_⟩
       · have q0 := (hc0.out W hW).trans c0
         unfold Oper.quietAt
         go_simp
         first
           | with_reducible exact rfl
           | with_reducible exact ⟨rfl, rfl⟩
           | (go_at_call 102
              refine (hf W hW).mono ?_
              rintro e W1 ⟨rfl, hb⟩
              exact ⟨rfl, hW.trans (hb.mono hW.size)⟩)
       go_big_quiet_on
       simp only [Act.put, List.setIfInBounds_toArray, List.set_cons_zero, List.set_cons_succ]))
  refine wpQuiet_nil ?_
  intro W hW
  rw [if_pos (by rfl)]
  go_simp
  clear hc0 hf c0 hB
  go_wp2_with fail
  go_ret
  exact ⟨by rw [← hz]; rfl, hW⟩
theorem mayOne2 (a b : Fa) (n : Nat) (B o c : Nat) (w : World) (hc : n + 2 ≤ c) (hn : n ≤ 100) (c0 : w.cell? ⟨B, o, none⟩ = some (.int .i64 (encF a)))
    (hf : ∀ W, Below w.heap.size w W → Calls Try.prog 102 #[.slice (some ⟨B, o + 1, none⟩) (n + 1) (c - 1)] W fun r W' => r = .returned (.int .i64 (encF b)) ∧ Below W.heap.size W W') :
    Calls Try.prog 102 #[.slice (some ⟨B, o, none⟩) (n + 2) c] w fun r W' => r = .returned (.int .i64 (encF (orF a b))) ∧ Below w.heap.size w W' :=
  match a, b, c0, hf with
  | (false, false, false), b, c0, hf => mayOne_0 b n B o c w hc hn c0 hf
  | (true, false, false), b, c0, hf => mayOne_1 b n B o c w hc hn c0 hf
  | (false, true, false), b, c0, hf => mayOne_2 b n B o c w hc hn c0 hf
  | (true, true, false), b, c0, hf => mayOne_3 b n B o c w hc hn c0 hf
  | (false, false, true), b, c0, hf => mayOne_4 b n B o c w hc hn c0 hf
  | (true, false, true), b, c0, hf => mayOne_5 b n B o c w hc hn c0 hf
  | (false, true, true), b, c0, hf => mayOne_6 b n B o c w hc hn c0 hf
  | (true, true, true), b, c0, hf => mayOne_7 b n B o c w hc hn c0 hf
theorem mayOne_any : ∀ (l : List Fa) (a : Fa) (B o c : Nat) (w : World), FI w B o (a :: l) → l.length ≤ 100 → l.length + 1 ≤ c →
    Calls Try.prog 102 #[.slice (some ⟨B, o, none⟩) (l.length + 1) c] w fun r W' => r = .returned (.int .i64 (encF (foldF orF (a :: l)))) ∧ Below w.heap.size w W'
  | [], a, B, o, c, w, h, _, _ => by rw [foldF, if_pos rfl]; exact mayOne1 a B o c w h
  | b :: l, a, B, o, c, w, h, hl, hc => by
    rw [foldF, if_neg (by simp)]
    have hl' : l.length ≤ 100 := by simp at hl; omega
    have hc' : l.length + 2 ≤ c := by simp at hc; omega
    exact mayOne2 a _ l.length B o c w hc' hl' (h 0 a rfl) fun W hb => mayOne_any l b B (o + 1) (c - 1) W (h.below hb h.lt).tail hl' (by omega)
end Go.Proofs.Ytokdaapmejccbaa
namespace Go.Proofs.Ytokdaapmejccbaa
open Go.RowKit
set_option linter.unusedVariables false
set_option linter.unusedSimpArgs false
/-- What the reference knows of a grammar's rules. -/
structure Ki (m : Nat) (W : World) (g : Gr) (l : List Fa) (K : Nat) : Prop where
  lK : K < m
  hm : m ≤ W.heap.size
  len : l.length = g.rules.length
  bK : FI W K 0 l
  gi : g.In m W
theorem Ki.grow {m : Nat} {W W' : World} {g : Gr} {l : List Fa} {K : Nat} (h : Ki m W g l K) (hb : Below W.heap.size W W') : Ki m W' g l K :=
  ⟨h.lK, Nat.le_trans h.hm hb.size, h.len, h.bK.below hb (Nat.lt_of_lt_of_le h.lK h.hm), h.gi.below (hb.mono h.hm)⟩
/-- What the reference's May does with an expression. -/
def RyC (g : Gr) (l : List Fa) (K c m : Nat) (e : Ex) : Prop := ∀ w : World, e.In w.heap.size w → Ki m w g l K →
  Calls Try.prog 69 #[g.val, .slice (some ⟨K, 0, none⟩) g.rules.length c, e.val] w fun r W' => r = .returned (.int .i64 (encF (e.may (ofL noF g.rules l)))) ∧ Below w.heap.size w W'
/-- The two boxes of the call. -/
structure Kb (w : World) (g : Gr) (e : Ex) (W : World) : Prop where
  bel : Below w.heap.size w W
  bg : BoxN W w.heap.size 24 #[.slice g.a g.rules.length g.c]
  be : BoxN W (w.heap.size + 1) 57 e.cells
theorem Kb.step {w : World} {g : Gr} {e : Ex} {W W' : World} (h : Kb w g e W) (hb : Below W.heap.size W W') : Kb w g e W' := ⟨h.bel.trans (hb.mono h.bel.size), h.bg.below hb h.bg.lt, h.be.below hb h.be.lt⟩
theorem Kb.new (w : World) (g : Gr) (e : Ex) : Kb w g e ((w.alloc (.cells #[.slice g.a g.rules.length g.c] 24)).alloc (.cells e.cells 57)) := by
  have h2 := BoxN.new (w.alloc (.cells #[.slice g.a g.rules.length g.c] 24)) 57 e.cells
  rw [World.size_alloc] at h2
  exact ⟨((Below.refl _ w).alloc (Nat.le_refl _) _).alloc (by simp) _, (BoxN.new w 24 _).alloc _, h2⟩
set_option maxRecDepth 20000 in
set_option maxHeartbeats 4000000 in
theorem ry_1 (g : Gr) (l : List Fa) (K c m : Nat) (e : Ex) (hk : e.k = 1) : RyC g l K c m e := fun w hin hK => by
  have hA := (Kb.new w g e).bel
  rw [cells_eq, hk] at hA
  rw [may_eq, if_pos hk, val_eq, gval_eq, hk]
  go_enter Try.func69, Try.ntmps69
  go_wp2_with fail
  go_ret
  exact ⟨rfl, hA⟩
set_option maxRecDepth 20000 in
set_option maxHeartbeats 4000000 in
theorem ry_2 (g : Gr) (l : List Fa) (K c m : Nat) (e : Ex) (hk : e.k = 2) : RyC g l K c m e := fun w hin hK => by
  have hA := (Kb.new w g e).bel
  rw [cells_eq, hk] at hA
  rw [may_eq, if_neg (by omega), if_pos hk, val_eq, gval_eq, hk]
  have he := eq_arr (wd e.S 0) (wd e.S 1) (wd e.S 2) (wd e.S 3) 0 0 0 0
  rw [show ((wd e.S 0 == 0) && ((wd e.S 1 == 0) && ((wd e.S 2 == 0) && (wd e.S 3 == 0)))) = noS e.S from rfl] at he
  cases hz : noS e.S
  all_goals
    rw [hz] at he
    clear hz
    go_enter Try.func69, Try.ntmps69
    go_wp2_with fail
    go_ret
    exact ⟨rfl, hA⟩
set_option maxRecDepth 20000 in
set_option maxHeartbeats 4000000 in
theorem ry_3 (g : Gr) (l : List Fa) (K c m : Nat) (e : Ex) (hk : e.k = 3) : RyC g l K c m e := fun w hin hK => by
  have hA := (Kb.new w g e).bel
  rw [cells_eq, hk] at hA
  rw [may_eq, if_neg (by omega), if_neg (by omega), if_pos hk, val_eq, gval_eq, hk]
  go_enter Try.func69, Try.ntmps69
  go_wp2_with fail
  go_ret
  exact ⟨rfl, hA⟩
set_option maxRecDepth 20000 in
set_option maxHeartbeats 4000000 in
theorem ry_4 (g : Gr) (l : List Fa) (K c m : Nat) (e : Ex) (hk : e.k = 4) (hs : IsRule g e.t) (hl : g.rules.length ≤ 10) : RyC g l K c m e := fun w hin hK => by
  obtain ⟨k, hfk, hkl⟩ := hs
  obtain ⟨f, hf⟩ : ∃ f, l[k]? = some f := ⟨_, List.getElem?_eq_getElem (by rw [hK.len]; exact hkl)⟩
  have hof : ofL noF g.rules l e.t = f := by unfold ofL; rw [hfk, Int.toNat_natCast, List.getD_eq_getElem?_getD, hf]; rfl
  have hKb := Kb.new w g e
  have hfi := rfind_any g e.t _ ((hK.grow hKb.bel).gi.mono (hK.grow hKb.bel).hm)
  have hst : Hid (∀ W', Below ((w.alloc (.cells #[.slice g.a g.rules.length g.c] 24)).alloc (.cells e.cells 57)).heap.size ((w.alloc (.cells #[.slice g.a g.rules.length g.c] 24)).alloc (.cells e.cells 57)) W' → Below w.heap.size w W' ∧ FI W' K 0 l) := fun W' hb => ⟨(hKb.step hb).bel, (hK.grow (hKb.step hb).bel).bK⟩
  have hlen := hK.len
  rw [hfk, gval_eq] at hfi
  rw [may_eq, if_neg (by omega), if_neg (by omega), if_neg (by omega), if_pos hk, val_eq, gval_eq, hof]
  have i0 : (0 : Int) ≤ (k : Int) := by omega
  have i1 : (k : Int) < (g.rules.length : Int) := by omega
  rw [cells_eq, hk] at hfi hst
  rw [hk]
  clear hKb hK hin hfk hk
  go_enter Try.func69, Try.ntmps69
  go_wp2_with (go_at_call 78; refine hfi.mono ?_; rintro r W1 ⟨rfl, hb⟩; have h1 := hst.out W1 hb; have c0 := h1.2 k f hf; rw [Nat.zero_add] at c0)
  go_ret
  exact ⟨rfl, h1.1⟩
end Go.Proofs.Ytokdaapmejccbaa
