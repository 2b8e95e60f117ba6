import Derived.Test.YtokdaapmejccbaaXQLast
import Derived.OrdersHeld
import Derived.Tactics
namespace Go.Proofs.Ytokdaapmejccbaa
open Go
set_option linter.unusedVariables false
section
variable {P : Program} {ops : Array Oper} {md : Region.Mode} {S : World → Prop} {m : Nat} {Q : Exit → Act → World → Prop}
/-- Whatever order is picked; S holds behind each but number m, which waits for all others. -/
def wpAnyL (P : Program) (md : Region.Mode) (ops : Array Oper) (Q : Exit → Act → World → Prop) (S : World → Prop) (m : Nat) : Nat → Array Bool → Act → World → Prop
  | 0, listed, a, w => Region.ready md ops listed = [] ∧ Q .normal a w
  | fuel + 1, listed, a, w => (Region.ready md ops listed = [] → Q .normal a w) ∧ ∀ i ∈ Region.ready md ops listed, wpOp P ops Q i (fun a' w' => (i ≠ m → S w') ∧ wpAnyL P md ops Q S m fuel (listed.setIfInBounds i true) a' w') a w
theorem wpAny_of_L : ∀ (fuel : Nat) (listed : Array Bool) (a : Act) (w : World), wpAnyL P md ops Q S m fuel listed a w → wpAny P md ops Q fuel listed a w
  | 0, _, _, _, h => h
  | fuel + 1, _, _, _, h => ⟨h.1, fun i hi => wpOp_mono (fun a' w' h' => wpAny_of_L fuel _ a' w' h'.2) (h.2 i hi)⟩
theorem wpAnyL_first {i : Nat} {oi : Oper} {v : Value} (hi : ops[i]? = some oi) (him : i ≠ m) (hm : ∀ listed : Array Bool, listed.getD i true = false → m ∉ Region.ready md ops listed) (hsel : ∀ (j : Nat) (o : Oper) cs b, ops[j]? = some o → o.op ≠ .select cs b)
    (hQ : ∀ c a w, Q (.panic c) (a.put oi.dst v) w → Q (.panic c) a w) :
    ∀ (fuel : Nat) (listed : Array Bool) (a : Act) (w : World),
      (∀ j oj, ops[j]? = some oj → j ≠ i → listed.getD j true = false → (∀ e ∈ oj.after, Region.binds md e = true → e.on ≠ i) → oi.apart ops oj = true) →
      i ∈ Region.ready md ops listed → YieldsIf P ops S oi v a → S w →
      wpAnyL P md ops Q S m fuel (listed.setIfInBounds i true) (a.put oi.dst v) w → wpAnyL P md ops Q S m (fuel + 1) listed a w := by
  intro fuel
  induction fuel with
  | zero =>
    intro listed a w _ hr hy hS H
    refine ⟨fun h => (by rw [h] at hr; cases hr), fun j hj => ?_⟩
    by_cases hji : j = i
    · subst hji; exact hy.wpOp hi hS ⟨fun _ => hS, H⟩
    · have := ready_mono hj hji
      rw [H.1] at this
      cases this
  | succ fuel ih =>
    intro listed a w hfree hr hy hS H
    refine ⟨fun h => (by rw [h] at hr; cases hr), fun j hj => ?_⟩
    by_cases hji : j = i
    · subst hji; exact hy.wpOp hi hS ⟨fun _ => hS, H⟩
    · have hjm : j ≠ m := fun e => hm listed (mem_ready.1 hr).1 (e ▸ hj)
      have h1 := H.2 j (ready_mono hj hji)
      obtain ⟨hjun, oj, hoj, hall⟩ := mem_ready.1 hj
      have hnot : ∀ e ∈ oj.after, Region.binds md e = true → e.on ≠ i := fun e he hb heq => by
        have h1 := hall e he hb
        have h0 := (mem_ready.1 hr).1
        rw [heq] at h1
        rcases Nat.lt_or_ge i listed.size with h' | h'
        · simp [h'] at h0 h1; rw [h0] at h1; cases h1
        · simp [Array.getElem?_eq_none h'] at h1
      have h2 := wpOp_putIf hoj (hfree j oj hoj hji hjun hnot) (fun cs b => hsel i oi cs b hi) (fun cs b => hsel j oj cs b hoj) hQ hy h1
      have hfree' : ∀ k ok, ops[k]? = some ok → k ≠ i → (listed.setIfInBounds j true).getD k true = false →
          (∀ e ∈ ok.after, Region.binds md e = true → e.on ≠ i) → oi.apart ops ok = true := fun k ok hk hki hun hno => by
        refine hfree k ok hk hki ?_ hno
        by_cases hjk : j = k
        · subst hjk; exact hjun
        · rw [getD_set_ne true hjk] at hun; exact hun
      refine wpOp_mono (fun a' w' h3 => ⟨h3.2.1, ih (listed.setIfInBounds j true) a' w' hfree' (ready_mono hr (Ne.symm hji)) h3.1 (h3.2.1 hjm) ?_⟩) h2
      rw [Array.setIfInBounds_comm _ _ hji]
      exact h3.2.2
/-- A walk in an order of one's own: at (i, true) number i only reads, at (i, false) nothing else may come up. -/
def wpSch (P : Program) (ops : Array Oper) (Q : Exit → Act → World → Prop) (S : World → Prop) (m : Nat) : List (Nat × Bool) → Act → World → Prop
  | [], a, w => Q .normal a w
  | (i, true) :: r, a, w => ∃ o v, ops[i]? = some o ∧ YieldsIf P ops S o v a ∧ wpSch P ops Q S m r (a.put o.dst v) w
  | (i, false) :: r, a, w => wpOp P ops Q i (fun a' w' => (i ≠ m → S w') ∧ wpSch P ops Q S m r a' w') a w
def schB (md : Region.Mode) (ops : Array Oper) (m : Nat) : List (Nat × Bool) → Array Bool → Bool
  | [], listed => (Region.ready md ops listed).isEmpty
  | (i, true) :: r, listed => (Region.ready md ops listed).contains i && Region.free md ops listed i && i != m && decide (i < ops.size) && schB md ops m r (listed.setIfInBounds i true)
  | (i, false) :: r, listed => Region.ready md ops listed == [i] && (i != m || r.isEmpty) && schB md ops m r (listed.setIfInBounds i true)
theorem wpAnyL_sch (hs : Region.noSelect ops = true) (hw : m < ops.size → waits md ops m = true) (hQ : ∀ (c : _) (a : Act) (d : Option Tmp) (v : Value) (w : World), Q (.panic c) (a.put d v) w → Q (.panic c) a w) :
    ∀ (l : List (Nat × Bool)) (listed : Array Bool) (a : Act) (w : World), schB md ops m l listed = true → (l ≠ [] → S w) → wpSch P ops Q S m l a w → wpAnyL P md ops Q S m l.length listed a w
  | [], listed, a, w, hB, _, h => ⟨by simpa [schB] using hB, h⟩
  | (i, true) :: r, listed, a, w, hB, hS, ⟨o, v, ho, hy, h⟩ => by
    simp only [schB, Bool.and_eq_true, bne_iff_ne, ne_eq, decide_eq_true_eq] at hB
    obtain ⟨⟨⟨⟨hr, hf⟩, him⟩, hil⟩, hB'⟩ := hB
    refine wpAnyL_first ho him (fun listed' hl => ?_) (Region.noSelect_spec hs) (fun c a w => hQ c a _ _ w) r.length listed a w (Region.free_spec ho hf) (by simpa using hr) hy (hS (by simp))
      (wpAnyL_sch hs hw hQ r _ _ _ hB' (fun _ => hS (by simp)) h)
    by_cases hms : m < ops.size
    · exact waits_not (hw hms) hil him hl
    · intro hmem
      obtain ⟨_, o', ho', _⟩ := mem_ready.1 hmem
      rw [Array.getElem?_eq_none (by omega)] at ho'
      cases ho'
  | (i, false) :: r, listed, a, w, hB, hS, h => by
    simp only [schB, Bool.and_eq_true, Bool.or_eq_true, bne_iff_ne, ne_eq, beq_iff_eq, List.isEmpty_iff] at hB
    obtain ⟨⟨hr, hmr⟩, hB'⟩ := hB
    refine ⟨fun h0 => (by rw [hr] at h0; cases h0), fun j hj => ?_⟩
    rw [hr, List.mem_singleton] at hj
    subst hj
    exact wpOp_mono (fun a' w' h' => ⟨h'.1, wpAnyL_sch hs hw hQ r _ a' w' hB' (fun hne => h'.1 (hmr.resolve_right hne)) h'.2⟩) h
/-- A region that draws, walked once in an order of one's own. -/
theorem wp_region_sch {id : Nat} {a : Act} {w : World} (S : World → Prop) (m : Nat) (sch : List (Nat × Bool)) (l : List Oper) (hm : P.follows .mixedOrders = true) (hs : Region.noSelect l.toArray = true) (hw : m < l.toArray.size → waits .any l.toArray m = true)
    (hB : schB .any l.toArray m sch (Array.replicate l.toArray.size false) = true) (hlen : sch.length = l.toArray.size)
    (hQ : ∀ (c : _) (a : Act) (d : Option Tmp) (v : Value) (w : World), Q (.panic c) (a.put d v) w → Q (.panic c) a w) (hS : S w.drew)
    (h : wpSch P l.toArray Q S m sch a w.drew) : (Code.region id l.toArray true).wp P Q a w := by
  refine wp_region_any hm ?_
  have := wpAnyL_sch (md := .any) hs hw hQ sch _ a w.drew hB (fun _ => hS) h
  rw [hlen] at this
  exact wpAny_of_L _ _ _ _ this
theorem wpSch_read {i : Nat} {o : Oper} {r : List (Nat × Bool)} {a : Act} {w : World} (ho : ops[i]? = some o) (hg : o.guard = none) (h : ∃ v, (∀ W, S W → (execOp a.eval o).run P W = .ok (.value v) W) ∧ wpSch P ops Q S m r (a.put o.dst v) w) : wpSch P ops Q S m ((i, true) :: r) a w := by
  obtain ⟨v, hv, h⟩ := h
  exact ⟨o, v, ho, .inl ⟨by simp [Region.wanted, hg], hv⟩, h⟩
/-- What the walk's own goal is at one operation: what stands behind it is a letter. -/
def oneQ (Q : Exit → Act → World → Prop) (K : Act → World → Prop) : Exit → Act → World → Prop
  | .normal, a, w => K a w
  | e, a, w => Q e a w
theorem wpSch_one {i : Nat} {o : Oper} {r : List (Nat × Bool)} {a : Act} {w : World} (ho : ops[i]? = some o) (hg : o.guard = none)
    (h : ∀ K : Act → World → Prop, (∀ a' w', (i ≠ m → S w') → wpSch P ops Q S m r a' w' → K a' w') → o.wp P a w K Q) : wpSch P ops Q S m ((i, false) :: r) a w := by
  unfold wpSch wpOp
  simp only [ho]
  rw [if_pos (by simp [Region.wanted, hg])]
  exact .inl (h _ fun a' w' h1 h2 => ⟨h1, h2⟩)
theorem wpSch_list {i : Nat} {o : Oper} {r : List (Nat × Bool)} {a : Act} {w : World} (ho : ops[i]? = some o) (hg : o.guard = none)
    (h : ∀ K : Act → World → Prop, (∀ a' w', (i ≠ m → S w') → wpSch P ops Q S m r a' w' → K a' w') → wpList P ops (oneQ Q K) [o] a w) : wpSch P ops Q S m ((i, false) :: r) a w := by
  unfold wpSch wpOp
  simp only [ho]
  have h1 := h (fun a' w' => (i ≠ m → S w') ∧ wpSch P ops Q S m r a' w') fun a' w' h1 h2 => ⟨h1, h2⟩
  unfold wpList at h1
  rw [if_pos (by simp [Region.wanted, hg])] at h1 ⊢
  refine h1.imp (fun h2 => ?_) fun ⟨h2, x, y, h3⟩ => ⟨h2, x, y, h3⟩
  unfold Oper.wp Oper.upon at h2 ⊢
  exact h2
end
end Go.Proofs.Ytokdaapmejccbaa
namespace Go.Proofs.Ytokdaapmejccbaa
open Go
set_option linter.unusedVariables false
section
variable {P : Program} {ops : Array Oper} {md : Region.Mode} {S : World → Prop} {m : Nat} {Q : Exit → Act → World → Prop} {A : Nat} {l2 : List (Nat × Bool)}
/-- A walk in an order of one's own, where number A may come up at any time ahead of l2. -/
def wpSchA (P : Program) (ops : Array Oper) (Q : Exit → Act → World → Prop) (S : World → Prop) (m A : Nat) (l2 : List (Nat × Bool)) : List (Nat × Bool) → Act → World → Prop
  | [], a, w => wpOp P ops Q A (fun a' w' => (A ≠ m → S w') ∧ wpSch P ops Q S m l2 a' w') a w
  | (i, true) :: r, a, w => ∃ o v, ops[i]? = some o ∧ YieldsIf P ops S o v a ∧ wpSchA P ops Q S m A l2 r (a.put o.dst v) w
  | (i, false) :: r, a, w => wpOp P ops Q i (fun a' w' => (i ≠ m → S w') ∧ wpSchA P ops Q S m A l2 r a' w') a w ∧ wpOp P ops Q A (fun a' w' => (A ≠ m → S w') ∧ wpSch P ops Q S m ((i, false) :: r ++ l2) a' w') a w
def schAB (md : Region.Mode) (ops : Array Oper) (m A : Nat) (l2 : List (Nat × Bool)) : List (Nat × Bool) → Array Bool → Bool
  | [], listed => Region.ready md ops listed == [A] && (A != m || l2.isEmpty) && schB md ops m l2 (listed.setIfInBounds A true)
  | (i, true) :: r, listed => (Region.ready md ops listed).contains i && Region.free md ops listed i && i != m && decide (i < ops.size) && schAB md ops m A l2 r (listed.setIfInBounds i true)
  | (i, false) :: r, listed => !(Region.ready md ops listed).isEmpty && (Region.ready md ops listed).all (fun j => j == i || j == A) && i != m && A != m && schAB md ops m A l2 r (listed.setIfInBounds i true) && schB md ops m ((i, false) :: r ++ l2) (listed.setIfInBounds A true)
theorem wpAnyL_schA (hs : Region.noSelect ops = true) (hw : m < ops.size → waits md ops m = true) (hQ : ∀ (c : _) (a : Act) (d : Option Tmp) (v : Value) (w : World), Q (.panic c) (a.put d v) w → Q (.panic c) a w) :
    ∀ (l : List (Nat × Bool)) (listed : Array Bool) (a : Act) (w : World), schAB md ops m A l2 l listed = true → S w → wpSchA P ops Q S m A l2 l a w → wpAnyL P md ops Q S m (l.length + 1 + l2.length) listed a w
  | [], listed, a, w, hB, hS, h => by
    simp only [schAB, Bool.and_eq_true, Bool.or_eq_true, bne_iff_ne, ne_eq, beq_iff_eq, List.isEmpty_iff] at hB
    obtain ⟨⟨hr, hmr⟩, hB'⟩ := hB
    rw [show ([] : List (Nat × Bool)).length + 1 + l2.length = l2.length + 1 from by simp; omega]
    refine ⟨fun h0 => (by rw [hr] at h0; cases h0), fun j hj => ?_⟩
    rw [hr, List.mem_singleton] at hj
    subst hj
    exact wpOp_mono (fun a' w' h' => ⟨h'.1, wpAnyL_sch hs hw hQ l2 _ a' w' hB' (fun hne => h'.1 (hmr.resolve_right hne)) h'.2⟩) h
  | (i, true) :: r, listed, a, w, hB, hS, ⟨o, v, ho, hy, h⟩ => by
    simp only [schAB, Bool.and_eq_true, bne_iff_ne, ne_eq, decide_eq_true_eq] at hB
    obtain ⟨⟨⟨⟨hr, hf⟩, him⟩, hil⟩, hB'⟩ := hB
    rw [show ((i, true) :: r).length + 1 + l2.length = (r.length + 1 + l2.length) + 1 from by simp; omega]
    refine wpAnyL_first ho him (fun listed' hl => ?_) (Region.noSelect_spec hs) (fun c a w => hQ c a _ _ w) (r.length + 1 + l2.length) listed a w (Region.free_spec ho hf) (by simpa using hr) hy hS
      (wpAnyL_schA hs hw hQ r _ _ _ hB' hS h)
    by_cases hms : m < ops.size
    · exact waits_not (hw hms) hil him hl
    · intro hmem
      obtain ⟨_, o', ho', _⟩ := mem_ready.1 hmem
      rw [Array.getElem?_eq_none (by omega)] at ho'
      cases ho'
  | (i, false) :: r, listed, a, w, hB, hS, ⟨h1, h2⟩ => by
    simp only [schAB, Bool.and_eq_true, bne_iff_ne, ne_eq, Bool.not_eq_true', List.all_eq_true, Bool.or_eq_true, beq_iff_eq] at hB
    obtain ⟨⟨⟨⟨⟨he, hr⟩, him⟩, hAm⟩, hB1⟩, hB2⟩ := hB
    rw [show ((i, false) :: r).length + 1 + l2.length = (r.length + 1 + l2.length) + 1 from by simp; omega]
    refine ⟨fun h0 => (by rw [h0] at he; simp at he), fun j hj => ?_⟩
    rcases hr j hj with rfl | rfl
    · exact wpOp_mono (fun a' w' h' => ⟨h'.1, wpAnyL_schA hs hw hQ r _ a' w' hB1 (h'.1 him) h'.2⟩) h1
    · refine wpOp_mono (fun a' w' h' => ⟨h'.1, ?_⟩) h2
      have := wpAnyL_sch hs hw hQ ((i, false) :: r ++ l2) _ a' w' hB2 (fun _ => h'.1 hAm) h'.2
      rw [List.length_append, List.length_cons] at this
      exact this
/-- A region that draws, walked in an order of one's own, with one operation that comes when it will. -/
theorem wp_region_schA {id : Nat} {a : Act} {w : World} (S : World → Prop) (m A : Nat) (l1 l2 : List (Nat × Bool)) (l : List Oper) (hm : P.follows .mixedOrders = true) (hs : Region.noSelect l.toArray = true) (hw : m < l.toArray.size → waits .any l.toArray m = true)
    (hB : schAB .any l.toArray m A l2 l1 (Array.replicate l.toArray.size false) = true) (hlen : l1.length + 1 + l2.length = l.toArray.size)
    (hQ : ∀ (c : _) (a : Act) (d : Option Tmp) (v : Value) (w : World), Q (.panic c) (a.put d v) w → Q (.panic c) a w) (hS : S w.drew)
    (h : wpSchA P l.toArray Q S m A l2 l1 a w.drew) : (Code.region id l.toArray true).wp P Q a w := by
  refine wp_region_any hm ?_
  have := wpAnyL_schA (md := .any) hs hw hQ l1 _ a w.drew hB hS h
  rw [hlen] at this
  exact wpAny_of_L _ _ _ _ this
theorem wpSchA_read {i : Nat} {o : Oper} {r : List (Nat × Bool)} {a : Act} {w : World} (ho : ops[i]? = some o) (hg : o.guard = none) (h : ∃ v, (∀ W, S W → (execOp a.eval o).run P W = .ok (.value v) W) ∧ wpSchA P ops Q S m A l2 r (a.put o.dst v) w) : wpSchA P ops Q S m A l2 ((i, true) :: r) a w := by
  obtain ⟨v, hv, h⟩ := h
  exact ⟨o, v, ho, .inl ⟨by simp [Region.wanted, hg], hv⟩, h⟩
theorem wpOp_list {i : Nat} {o : Oper} {R : Act → World → Prop} {a : Act} {w : World} (ho : ops[i]? = some o) (hg : o.guard = none)
    (h : ∀ K : Act → World → Prop, (∀ a' w', R a' w' → K a' w') → wpList P ops (oneQ Q K) [o] a w) : wpOp P ops Q i R a w := by
  unfold wpOp
  simp only [ho]
  have h1 := h R fun a' w' h1 => h1
  unfold wpList at h1
  rw [if_pos (by simp [Region.wanted, hg])] at h1 ⊢
  refine h1.imp (fun h2 => ?_) fun ⟨h2, x, y, h3⟩ => ⟨h2, x, y, h3⟩
  unfold Oper.wp Oper.upon at h2 ⊢
  exact h2
theorem wpSchA_list {i : Nat} {o oA : Oper} {r : List (Nat × Bool)} {a : Act} {w : World} (ho : ops[i]? = some o) (hg : o.guard = none) (hoA : ops[A]? = some oA) (hgA : oA.guard = none)
    (h1 : ∀ K : Act → World → Prop, (∀ a' w', (i ≠ m → S w') → wpSchA P ops Q S m A l2 r a' w' → K a' w') → wpList P ops (oneQ Q K) [o] a w)
    (h2 : ∀ K : Act → World → Prop, (∀ a' w', (A ≠ m → S w') → wpSch P ops Q S m ((i, false) :: r ++ l2) a' w' → K a' w') → wpList P ops (oneQ Q K) [oA] a w) : wpSchA P ops Q S m A l2 ((i, false) :: r) a w :=
  ⟨wpOp_list ho hg fun K hK => h1 K fun a' w' k1 k2 => hK a' w' ⟨k1, k2⟩, wpOp_list hoA hgA fun K hK => h2 K fun a' w' k1 k2 => hK a' w' ⟨k1, k2⟩⟩
theorem wpSchA_last {oA : Oper} {a : Act} {w : World} (hoA : ops[A]? = some oA) (hgA : oA.guard = none)
    (h : ∀ K : Act → World → Prop, (∀ a' w', (A ≠ m → S w') → wpSch P ops Q S m l2 a' w' → K a' w') → wpList P ops (oneQ Q K) [oA] a w) : wpSchA P ops Q S m A l2 [] a w :=
  wpOp_list hoA hgA fun K hK => h K fun a' w' k1 k2 => hK a' w' ⟨k1, k2⟩
end
end Go.Proofs.Ytokdaapmejccbaa
