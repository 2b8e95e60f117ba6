import Derived.Test.YtokdaapmejccbaaProg
import Derived.Deep.Quiet
namespace Go.Proofs.Ytokdaapmejccbaa
open Go
set_option linter.unusedVariables false
section
variable {P : Program} {ops : Array Oper} {md : Region.Mode} {C : World → Prop} {m : Nat} {B : Act → Prop}
/-- Whatever order is picked, number m apart, which waits for all others. -/
def wpAnyR (P : Program) (md : Region.Mode) (ops : Array Oper) (C : World → Prop) (m : Nat) (B : Act → Prop) : Nat → Array Bool → Act → Prop
  | 0, listed, a => (∀ j ∈ Region.ready md ops listed, j = m ∧ Region.ready md ops (listed.setIfInBounds m true) = []) ∧ Region.ready md ops listed ≠ [] ∧ B a
  | fuel + 1, listed, a => Region.ready md ops listed ≠ [] ∧ ∀ i ∈ Region.ready md ops listed, i ≠ m ∧ qOp P ops C i (wpAnyR P md ops C m B fuel (listed.setIfInBounds i true)) a
theorem wpAny_of_R {Q' : Exit → Act → World → Prop} (hB : ∀ a w, C w → B a → wpOp P ops Q' m (fun a' w' => Q' .normal a' w') a w) : ∀ (fuel : Nat) (listed : Array Bool) (a : Act) (w : World), C w →
    wpAnyR P md ops C m B fuel listed a → wpAny P md ops Q' (fuel + 1) listed a w
  | 0, listed, a, w, hw, h => ⟨fun h0 => absurd h0 h.2.1, fun i hi => by
      obtain ⟨rfl, hr⟩ := h.1 i hi
      exact wpOp_mono (fun a' w' h' => ⟨hr, h'⟩) (hB a w hw h.2.2)⟩
  | fuel + 1, listed, a, w, hw, h => ⟨fun h0 => absurd h0 h.1, fun i hi => wpOp_of_qOp hw (fun a' w' hw' => wpAny_of_R hB fuel _ a' w' hw') (h.2 i hi).2⟩
/-- Number m waits for all others. -/
def waits (md : Region.Mode) (ops : Array Oper) (m : Nat) : Bool := match ops[m]? with | none => false | some o => (List.range ops.size).all fun i => i == m || o.after.any fun e => Region.binds md e && e.on == i
theorem waits_not {listed : Array Bool} {i : Nat} (hw : waits md ops m = true) (hi : i < ops.size) (him : i ≠ m) (hl : listed.getD i true = false) : m ∉ Region.ready md ops listed := fun h => by
  obtain ⟨h1, o, ho, hall⟩ := mem_ready.1 h
  unfold waits at hw
  rw [ho] at hw
  simp only [List.all_eq_true, List.mem_range, Bool.or_eq_true, Array.any_eq_true', Bool.and_eq_true, beq_iff_eq] at hw
  rcases hw i hi with k | ⟨e, he, hb, hon⟩
  · exact him k
  · have h2 := hall e he hb
    rw [hon] at h2
    rcases Nat.lt_or_ge i listed.size with h' | h'
    · simp [h'] at hl h2; rw [hl] at h2; cases h2
    · simp [Array.getElem?_eq_none h'] at h2
theorem wpAnyR_first {i : Nat} {oi : Oper} {v : Value} (hi : ops[i]? = some oi) (him : i ≠ m) (hw : waits md ops m = true) (hsel : ∀ (j : Nat) (o : Oper) cs b, ops[j]? = some o → o.op ≠ .select cs b) :
    ∀ (fuel : Nat) (listed : Array Bool) (a : Act),
      (∀ j oj, ops[j]? = some oj → j ≠ i → listed.getD j true = false → (∀ e ∈ oj.after, Region.binds md e = true → e.on ≠ i) → oi.apart ops oj = true) →
      i ∈ Region.ready md ops listed → YieldsIn P ops C oi v a →
      wpAnyR P md ops C m B fuel (listed.setIfInBounds i true) (a.put oi.dst v) → wpAnyR P md ops C m B (fuel + 1) listed a := by
  have hil : i < ops.size := (Array.getElem?_eq_some_iff.1 hi).1
  intro fuel
  induction fuel with
  | zero =>
    intro listed a _ hr hy H
    refine ⟨fun h => (by rw [h] at hr; cases hr), fun j hj => ?_⟩
    have hjm : j ≠ m := fun e => waits_not hw hil him (mem_ready.1 hr).1 (e ▸ hj)
    refine ⟨hjm, ?_⟩
    by_cases hji : j = i
    · subst hji; exact hy.qOp hi H
    · exact absurd (H.1 j (ready_mono hj hji)).1 hjm
  | succ fuel ih =>
    intro listed a hfree hr hy H
    refine ⟨fun h => (by rw [h] at hr; cases hr), fun j hj => ?_⟩
    have hjm : j ≠ m := fun e => waits_not hw hil him (mem_ready.1 hr).1 (e ▸ hj)
    refine ⟨hjm, ?_⟩
    by_cases hji : j = i
    · subst hji; exact hy.qOp hi H
    · have h1 := (H.2 j (ready_mono hj hji)).2
      obtain ⟨hjun, oj, hoj, hall⟩ := mem_ready.1 hj
      have hnot : ∀ e ∈ oj.after, Region.binds md e = true → e.on ≠ i := fun e he hb heq => by
        have h1 := hall e he hb
        have h0 := (mem_ready.1 hr).1
        rw [heq] at h1
        rcases Nat.lt_or_ge i listed.size with h' | h'
        · simp [h'] at h0 h1; rw [h0] at h1; cases h1
        · simp [Array.getElem?_eq_none h'] at h1
      have h2 := qOp_put hoj (hfree j oj hoj hji hjun hnot) (fun cs b => hsel i oi cs b hi) (fun cs b => hsel j oj cs b hoj) hy h1
      have hfree' : ∀ k ok, ops[k]? = some ok → k ≠ i → (listed.setIfInBounds j true).getD k true = false →
          (∀ e ∈ ok.after, Region.binds md e = true → e.on ≠ i) → oi.apart ops ok = true := fun k ok hk hki hun hno => by
        refine hfree k ok hk hki ?_ hno
        by_cases hjk : j = k
        · subst hjk; exact hjun
        · rw [getD_set_ne true hjk] at hun; exact hun
      refine qOp_mono (fun a' h3 => ih (listed.setIfInBounds j true) a' hfree' (ready_mono hr (Ne.symm hji)) h3.1 ?_) h2
      rw [Array.setIfInBounds_comm _ _ hji]
      exact h3.2
theorem wpAnyR_lex (hs : Region.noSelect ops = true) (hw : waits md ops m = true) : ∀ (l : List Oper) (k : Nat) (listed : Array Bool) (a : Act), k + l.length = m → (∀ j, j < l.length → l[j]? = ops[k + j]?) →
    Region.lexFrom md ops (l.length + 1) k listed = true → wpQuiet P ops C B l a → wpAnyR P md ops C m B l.length listed a
  | [], k, listed, a, hk, _, hB, h => by
    simp only [List.length_nil, Region.lexFrom, Bool.and_eq_true, List.isEmpty_iff] at hB
    obtain ⟨⟨hr, hf⟩, hB'⟩ := hB
    have hkm : k = m := by simpa using hk
    subst hkm
    refine ⟨fun j hj => ?_, fun h0 => by rw [h0] at hr; simp at hr, h⟩
    refine ⟨?_, hB'⟩
    apply Classical.byContradiction
    intro hne
    have := ready_mono hj hne
    rw [hB'] at this
    cases this
  | o :: l, k, listed, a, hk, hl, hB, h => by
    have h0 : ops[k]? = some o := by have := hl 0 (by simp); simpa using this.symm
    rw [List.length_cons, Region.lexFrom] at hB
    simp only [Bool.and_eq_true] at hB
    obtain ⟨⟨hr, hf⟩, hB'⟩ := hB
    have hst : qOp P ops C k (wpQuiet P ops C B l) a := by unfold qOp; simp only [h0]; exact h
    obtain ⟨v, hy, hK⟩ := yieldsIn_of_qOp h0 hst
    exact wpAnyR_first h0 (by rw [List.length_cons] at hk; omega) hw (Region.noSelect_spec hs) l.length listed a (Region.free_spec h0 hf) (by simpa using hr) hy
      (wpAnyR_lex hs hw l (k + 1) _ _ (by rw [List.length_cons] at hk; omega) (fun j hj => by have := hl (j + 1) (by simpa using hj); simpa [Nat.add_assoc, Nat.add_comm 1 j] using this) hB' hK)
end
/-- One walk of all operations but the last, which waits for them all; the last one in whatever world of the class. -/
theorem wp_region_last {P : Program} {ops : Array Oper} {id : Nat} {Q : Exit → Act → World → Prop} {a : Act} {w : World} (C : World → Prop) (l : List Oper) (o : Oper) (hm : P.follows .mixedOrders = true) (ho : ops.toList = l ++ [o]) (hB : Region.lexB .any ops = true) (hw : waits .any ops l.length = true) (hC : C { w with drawn := w.drawn + 1 })
    (h : wpQuiet P ops C (fun a' => ∀ w', C w' → if Region.wanted o (yielded ops a'.tmps) = true then Oper.wp P o a' w' (fun a'' w'' => Q .normal a'' w'') Q else Q .normal (a'.put o.dst undef) w') l a) : (Code.region id ops true).wp P Q a w := by
  simp only [Region.lexB, Bool.and_eq_true] at hB
  have hsz : ops.size = l.length + 1 := by rw [← Array.length_toList, ho]; simp
  have hget : ∀ j : Nat, ops[j]? = (l ++ [o])[j]? := fun j => by rw [← ho]; simp
  have hlast : ops[l.length]? = some o := by rw [hget]; simp
  refine wp_region_any hm ?_
  rw [hsz]
  refine wpAny_of_R (C := C) (m := l.length) (B := fun a' => ∀ w', C w' → if Region.wanted o (yielded ops a'.tmps) = true then Oper.wp P o a' w' (fun a'' w'' => Q .normal a'' w'') Q else Q .normal (a'.put o.dst undef) w') (fun a' w' hw' hb => ?_) l.length _ a _ hC ?_
  · have := hb w' hw'
    unfold wpOp
    simp only [hlast]
    split
    · rename_i hk; rw [if_pos hk] at this; exact .inl this
    · rename_i hk; rw [if_neg hk] at this; exact this
  · refine wpAnyR_lex hB.1 hw l 0 _ a (by simp) (fun j hj => ?_) (by rw [← hsz]; exact hB.2) h
    rw [Nat.zero_add, hget, List.getElem?_append_left hj]
theorem wp_region_lit {P : Program} {id : Nat} {Q : Exit → Act → World → Prop} {a : Act} {w : World} (C : World → Prop) (l : List Oper) (o : Oper) (hm : P.follows .mixedOrders = true) (ho : l.getLast? = some o) (hB : Region.lexB .any l.toArray = true) (hw : waits .any l.toArray l.dropLast.length = true) (hC : C { w with drawn := w.drawn + 1 })
    (h : wpQuiet P l.toArray C (fun a' => ∀ w', C w' → if Region.wanted o (yielded l.toArray a'.tmps) = true then Oper.wp P o a' w' (fun a'' w'' => Q .normal a'' w'') Q else Q .normal (a'.put o.dst undef) w') l.dropLast a) : (Code.region id l.toArray true).wp P Q a w :=
  wp_region_last C l.dropLast o hm (by obtain ⟨ys, rfl⟩ := List.getLast?_eq_some_iff.1 ho; simp) hB hw hC h
end Go.Proofs.Ytokdaapmejccbaa
