import Derived.Test.YtbeohmcmphebhaaDoorXApartB
import Derived.Test.YtbeohmcmphebhaaDoorXCheck
import Derived.Test.YtbeohmcmphebhaaDoorXQOwn
import Derived.Laws.Tables
import Derived.Laws.Rows
namespace Go.Proofs.YtbeohmcmphebhaaDoor
/-- How a text begins. -/
def tg (l : List UInt8) : Nat := if l.headD 0 = 40 then (if (l.drop 1).headD 0 = 41 then 1 else 5) else if l.headD 0 = 46 then 2 else if l.headD 0 = 91 then 3 else if l.headD 0 = 39 then 4 else if l.headD 0 = 38 then 7 else if l.headD 0 = 33 then 8 else 6
theorem form_name (e : Ex) (hf : formOk e = true) (h1 : e.k = 4) : isName e.t.data.toList = true := by
  unfold formOk at hf
  rw [Bool.and_eq_true, Bool.and_eq_true] at hf
  have ht := hf.1.1
  unfold textOk at ht
  rwa [if_neg (by omega), if_pos h1] at ht
theorem pr_k1 (e : Ex) (h : e.k = 1) : e.pr = [40, 41] := by rw [pr_eq, if_pos h]
theorem pr_k2 (e : Ex) (h : e.k = 2) : e.pr = if isFull e.S then [46] else cls e.S := by rw [pr_eq, if_neg (by omega), if_pos h]
theorem pr_k3 (e : Ex) (h : e.k = 3) : e.pr = lit e.t.data.toList := by rw [pr_eq, if_neg (by omega), if_neg (by omega), if_pos h]
theorem pr_k4 (e : Ex) (h : e.k = 4) : e.pr = e.t.data.toList := by rw [pr_eq, if_neg (by omega), if_neg (by omega), if_neg (by omega), if_pos h]
/-- How the text of what is no sign behind begins. -/
theorem tg_base (a : Ex) (ha : a.okA = true) (ka : ¬ (7 ≤ a.k ∧ a.k ≤ 9)) (R : List UInt8) :
    (a.k = 1 ∧ tg (a.bt 3 ++ R) = 1) ∨ (a.k = 2 ∧ isFull a.S = true ∧ tg (a.bt 3 ++ R) = 2) ∨ (a.k = 2 ∧ isFull a.S = false ∧ tg (a.bt 3 ++ R) = 3) ∨ (a.k = 3 ∧ tg (a.bt 3 ++ R) = 4) ∨ (a.k = 4 ∧ tg (a.bt 3 ++ R) = 6) ∨ ((a.k = 5 ∨ a.k = 6 ∨ a.k = 10 ∨ a.k = 11) ∧ tg (a.bt 3 ++ R) = 5) := by
  have ht := tight_cases a.k
  have hf := okA_form ha
  have hbr : (a.k = 5 ∨ a.k = 6 ∨ a.k = 10 ∨ a.k = 11) → tg (a.bt 3 ++ R) = 5 := fun hk => by
    obtain ⟨c, t, h1, h2, _⟩ := pr_head a.size a (Nat.le_refl _) ha
    rw [bt_brk 3 a (by omega), h1]
    simp [tg, h2]
  rcases form_kinds a hf with (⟨h1, _⟩ | ⟨h1, _⟩ | ⟨h1, _, h2⟩ | ⟨h1, _, h2⟩) | ⟨h1, h2, _⟩ | ⟨h1, h2, h3⟩
  · refine .inl ⟨h1, ?_⟩
    rw [bt_pr 3 a (by omega), pr_k1 a h1]; rfl
  · cases hfl : isFull a.S with
    | true =>
      refine .inr (.inl ⟨h1, rfl, ?_⟩)
      rw [bt_pr 3 a (by omega), pr_k2 a h1, hfl]; rfl
    | false =>
      refine .inr (.inr (.inl ⟨h1, rfl, ?_⟩))
      rw [bt_pr 3 a (by omega), pr_k2 a h1, hfl]; rfl
  · refine .inr (.inr (.inr (.inl ⟨h1, ?_⟩)))
    rw [bt_pr 3 a (by omega), pr_k3 a h1]; rfl
  · refine .inr (.inr (.inr (.inr (.inl ⟨h1, ?_⟩))))
    rw [bt_pr 3 a (by omega), pr_k4 a h1]
    obtain ⟨_, c, r, hc, hl⟩ := name_ok a.t (form_name a hf h1)
    have hn := isL_ne c hl
    rw [hc]
    simp [tg, hn.2.2.1, hn.2.2.2.1, hn.2.2.2.2.1, hn.2.2.2.2.2.1, hn.2.2.2.2.2.2.1, hn.2.2.2.2.2.2.2]
  · exact .inr (.inr (.inr (.inr (.inr ⟨by omega, hbr (by omega)⟩))))
  · exact .inr (.inr (.inr (.inr (.inr ⟨by omega, hbr (by omega)⟩))))
theorem leaf_kids {a : Ex} (ha : a.okA = true) (hk : a.k ≤ 4) : a.kids = [] := by
  rcases form_kinds a (okA_form ha) with (⟨h1, h0⟩ | ⟨h1, h0⟩ | ⟨h1, h0, h2⟩ | ⟨h1, h0, h2⟩) | ⟨h1, h2, _⟩ | ⟨h1, h2, h3⟩
  all_goals first | exact List.eq_nil_of_length_eq_zero h0 | omega
theorem ba_ext {s t : ByteArray} (h : s.data.toList = t.data.toList) : s = t := by
  obtain ⟨⟨a⟩⟩ := s
  obtain ⟨⟨b⟩⟩ := t
  simp at h
  rw [h]
theorem base_split (a b : Ex) (ha : a.okA = true) (hb : b.okA = true) (ka : ¬ (7 ≤ a.k ∧ a.k ≤ 9)) (kb : ¬ (7 ≤ b.k ∧ b.k ≤ 9)) (HU : (a.k = 5 ∨ a.k = 6 ∨ a.k = 10 ∨ a.k = 11) → U0 a b)
    (R S : List UInt8) (hR : ∀ c t, R = c :: t → okc c = false) (hS : ∀ c t, S = c :: t → okc c = false) (h : a.bt 3 ++ R = b.bt 3 ++ S) : a.er = b.er ∧ R = S := by
  have hta := tg_base a ha ka R
  have htb := tg_base b hb kb S
  rw [← h] at htb
  have ta := tight_cases a.k
  have tb := tight_cases b.k
  have fa := form_leaf a (okA_form ha)
  have fb := form_leaf b (okA_form hb)
  rcases hta with ⟨h1, e1⟩ | ⟨h1, f1, e1⟩ | ⟨h1, f1, e1⟩ | ⟨h1, e1⟩ | ⟨h1, e1⟩ | ⟨h1, e1⟩
  all_goals rcases htb with ⟨h2, e2⟩ | ⟨h2, f2, e2⟩ | ⟨h2, f2, e2⟩ | ⟨h2, e2⟩ | ⟨h2, e2⟩ | ⟨h2, e2⟩
  all_goals first | exact absurd (e1.symm.trans e2) (by decide) | skip
  · rw [bt_pr 3 a (by omega), bt_pr 3 b (by omega), pr_k1 a h1, pr_k1 b h2] at h
    refine ⟨?_, List.append_cancel_left h⟩
    rw [er_eq, er_eq, leaf_kids ha (by omega), leaf_kids hb (by omega), fa.1 (by omega), fb.1 (by omega), fa.2 (by omega), fb.2 (by omega), h1, h2]
  · rw [bt_pr 3 a (by omega), bt_pr 3 b (by omega), pr_k2 a h1, pr_k2 b h2, f1, f2] at h
    refine ⟨?_, List.append_cancel_left h⟩
    have hs : a.S = b.S := by
      have g1 := noS_iff _ f1
      have g2 := noS_iff _ f2
      have g3 : ~~~a.S = ~~~b.S := by rw [g1, g2]
      simpa using g3
    rw [er_eq, er_eq, leaf_kids ha (by omega), leaf_kids hb (by omega), hs, fa.2 (by omega), fb.2 (by omega), h1, h2]
  · rw [bt_pr 3 a (by omega), bt_pr 3 b (by omega), pr_k2 a h1, pr_k2 b h2, f1, f2] at h
    have := cls_split a.S b.S R S h
    refine ⟨?_, this.2⟩
    rw [er_eq, er_eq, leaf_kids ha (by omega), leaf_kids hb (by omega), this.1, fa.2 (by omega), fb.2 (by omega), h1, h2]
  · rw [bt_pr 3 a (by omega), bt_pr 3 b (by omega), pr_k3 a h1, pr_k3 b h2] at h
    have := lit_split _ _ R S h
    refine ⟨?_, this.2⟩
    rw [er_eq, er_eq, leaf_kids ha (by omega), leaf_kids hb (by omega), fa.1 (by omega), fb.1 (by omega), ba_ext this.1, h1, h2]
  · rw [bt_pr 3 a (by omega), bt_pr 3 b (by omega), pr_k4 a h1, pr_k4 b h2] at h
    have := name_split _ _ R S (name_ok a.t (form_name a (okA_form ha) h1)).1 (name_ok b.t (form_name b (okA_form hb) h2)).1 hR hS h
    refine ⟨?_, this.2⟩
    rw [er_eq, er_eq, leaf_kids ha (by omega), leaf_kids hb (by omega), fa.1 (by omega), fb.1 (by omega), ba_ext this.1, h1, h2]
  · rw [bt_brk 3 a (by omega), bt_brk 3 b (by omega)] at h
    simp only [List.append_assoc, List.cons_append, List.nil_append, List.cons.injEq, true_and] at h
    have := HU h1 (41 :: R) (41 :: S) (.inr ⟨R, rfl⟩) (.inr ⟨S, rfl⟩) h
    exact ⟨this.1, by simpa using this.2⟩
end Go.Proofs.YtbeohmcmphebhaaDoor
namespace Go.Proofs.YtbeohmcmphebhaaDoor
open Go.RowKit
open Ex.er (erL)
set_option linter.unusedVariables false
theorem BoxN.frozen {W : World} {B : Nat} {t : TypeId} {cs : Array Value} (h : BoxN W B t cs) (j : Nat) : W.frozen? ⟨B, j, none⟩ = false := by simp [World.frozen?, show W.heap[B]? = _ from h]
theorem grown_row {w : World} {g : Nat} {t : TypeId} {old cs : Array Value} (h : BoxN w g t old) : BoxN (w.setRow g cs) g t cs ∧ w.grownBy (w.setRow g cs) (some g) :=
  ⟨setRow_heap w g old cs t (0, 0) h, ⟨rfl, rfl, rfl, by simp, fun k _ hk => setRow_other w g k cs (fun e => hk (by rw [e]))⟩⟩
/-- A whole row stored into a box. -/
theorem wpList_store_box {ops : Array Oper} {rest : List Oper} {o : Oper} {a : Act} {w : World} {Q : Exit → Act → World → Prop} (hgd : o.guard = none) (ty : TypeId) (x y : Operand) (ho : o.op = .store ty x y)
    (g : Nat) (cs : Array Value) (hx : a.eval x = .pointer (some ⟨g, 0, none⟩)) (hy : a.eval y = .agg cs) (old : Array Value) (hg : BoxN w g ty old) (hi : (Tryd.prog.info? ty).map (·.size) = some cs.size)
    (hold : old.size = cs.size) (h1 : cs.all (·.oneCell') = true)
    (h : ∀ w', BoxN w' g ty cs → w.grownBy w' (some g) → wpList Tryd.prog ops Q rest (a.put o.dst undef) w') : wpList Tryd.prog ops Q (o :: rest) a w :=
  wpList_store_row hgd ty x y ho g cs hx hy ty old hg hi hold h1 (h _ (grown_row hg).1 (grown_row hg).2)
theorem Tryd.info27 : (Tryd.prog.info? 27).map (·.size) = some 7 := by kernel_rfl
theorem Tryd.info58 : (Tryd.prog.info? 58).map (·.size) = some 10 := by kernel_rfl
theorem Tryd.info60 : (Tryd.prog.info? 60).map (·.size) = some 12 := by kernel_rfl
theorem Ex.one (e : Ex) : e.cells.all (·.oneCell') = true := by simp [Ex.cells, Value.oneCell']
/-- An expression's cells where nothing has been laid. -/
def z7 : Array Value := #[.int .i64 0, .int .u64 0, .int .u64 0, .int .u64 0, .int .u64 0, .string ⟨#[]⟩, .slice none 0 0]
theorem z7_eq : z7 = #[.int .i64 0, .int .u64 0, .int .u64 0, .int .u64 0, .int .u64 0, .string ⟨#[]⟩, .slice none 0 0] := rfl
/-! What stays where one block alone of the old ones may be turned. -/
theorem gr_refl (B : Nat) (w : World) : w.grownBy w (some B) := ⟨rfl, rfl, rfl, Nat.le_refl _, fun _ _ _ => rfl⟩
theorem gr_trans {B : Nat} {w w1 w2 : World} (h : w.grownBy w1 (some B)) (h2 : w1.grownBy w2 (some B)) : w.grownBy w2 (some B) := grown_trans h h2 (fun _ e _ => e)
theorem gr_alloc {B : Nat} {w w1 : World} (h : w.grownBy w1 (some B)) (o : Obj) : w.grownBy (w1.alloc o) (some B) :=
  ⟨h.os, h.tape, h.output, Nat.le_trans h.size (by simp), fun k hk hne => (Below.heap_alloc w1 o k (Nat.lt_of_lt_of_le hk h.size)).trans (h.block k hk hne)⟩
theorem gr_below {B : Nat} {w w1 w2 : World} (h : w.grownBy w1 (some B)) (hb : Below w1.heap.size w1 w2) : w.grownBy w2 (some B) :=
  ⟨hb.os.trans h.os, hb.tape.trans h.tape, hb.output.trans h.output, Nat.le_trans h.size hb.size, fun k hk hne => (hb.block k (Nat.lt_of_lt_of_le hk h.size)).trans (h.block k hk hne)⟩
/-- A block of the call's own was turned. -/
theorem gr_own {B g : Nat} {w w1 w2 : World} (h : w.grownBy w1 (some B)) (hb : w1.grownBy w2 (some g)) (hg : w.heap.size ≤ g) : w.grownBy w2 (some B) :=
  ⟨hb.os.trans h.os, hb.tape.trans h.tape, hb.output.trans h.output, Nat.le_trans h.size hb.size, fun k hk hne => (hb.block k (Nat.lt_of_lt_of_le hk h.size) (fun e => by cases e; omega)).trans (h.block k hk hne)⟩
theorem gr_drew {B : Nat} {w w1 : World} (h : w.grownBy w1 (some B)) : w.grownBy w1.drew (some B) := ⟨h.os, h.tape, h.output, h.size, h.block⟩
/-- An expression that lies in blocks of a kind. -/
def Ex.Ou (P : Nat → Prop) (W : World) : Ex → Prop
  | .mk _ _ t a _ kids => (kids.length ≤ 140737488355328 ∧ t.size ≤ 140737488355328) ∧ OuL P W a 0 kids
  where
  OuL (P : Nat → Prop) (W : World) (a : Option Addr) : Nat → List Ex → Prop
    | _, [] => True
    | i, e :: r => (∃ b o, a = some ⟨b, o, none⟩ ∧ P b ∧ ∀ j, j < 7 → W.cell? ⟨b, o + i * 7 + j, none⟩ = e.cells[j]?) ∧ Ex.Ou P W e ∧ OuL P W a (i + 1) r
open Ex.Ou (OuL)
open Ex.In (InL)
theorem cells7 (e : Ex) (j : Nat) (h : j < 7) : ∃ v, e.cells[j]? = some v := ⟨_, Array.getElem?_eq_getElem (by show j < 7; omega)⟩
theorem cell_lt {W : World} {b o : Nat} {v : Value} (h : W.cell? ⟨b, o, none⟩ = some v) : b < W.heap.size := by
  obtain ⟨ob, h1, _⟩ := isCells_of_cell h
  exact (Array.getElem?_eq_some_iff.1 h1).1
theorem Ex.Ou.inn {P : Nat → Prop} {W : World} : ∀ {e : Ex}, e.Ou P W → e.In W.heap.size W
  | .mk _ _ _ _ _ kids, h => by
    rw [Ex.Ou] at h
    rw [Ex.In]
    exact ⟨h.1, go kids h.2⟩
  where
  go {P : Nat → Prop} {W : World} {a : Option Addr} : ∀ {i : Nat} (l : List Ex), OuL P W a i l → InL W.heap.size W a i l
    | _, [], _ => by rw [InL]; trivial
    | i, e :: r, h => by
      rw [OuL] at h
      rw [InL]
      obtain ⟨⟨b, o, ha, hb, hc⟩, h1, h2⟩ := h
      refine ⟨⟨b, o, ha, ?_, hc⟩, Ex.Ou.inn h1, go r h2⟩
      obtain ⟨v, hv⟩ := cells7 e 0 (by omega)
      exact cell_lt ((hc 0 (by omega)).trans hv)
theorem Ex.Ou.gr {P Q : Nat → Prop} {A W : World} {row : Option Nat} (hg : A.grownBy W row) (hP : ∀ b, P b → b < A.heap.size → some b ≠ row ∧ Q b) : ∀ {e : Ex}, e.Ou P A → e.Ou Q W
  | .mk _ _ _ _ _ kids, h => by
    rw [Ex.Ou] at h ⊢
    exact ⟨h.1, go hg hP kids h.2⟩
  where
  go {P Q : Nat → Prop} {A W : World} {row : Option Nat} (hg : A.grownBy W row) (hP : ∀ b, P b → b < A.heap.size → some b ≠ row ∧ Q b) {a : Option Addr} : ∀ {i : Nat} (l : List Ex), OuL P A a i l → OuL Q W a i l
    | _, [], _ => by rw [OuL]; trivial
    | i, e :: r, h => by
      rw [OuL] at h ⊢
      obtain ⟨⟨b, o, ha, hb, hc⟩, h1, h2⟩ := h
      have hlt : b < A.heap.size := by
        obtain ⟨v, hv⟩ := cells7 e 0 (by omega)
        exact cell_lt ((hc 0 (by omega)).trans hv)
      refine ⟨⟨b, o, ha, (hP b hb hlt).2, fun j hj => ?_⟩, Ex.Ou.gr hg hP h1, go hg hP r h2⟩
      rw [← hc j hj]
      exact World.cell?_of_block (w := A) (hg.block b hlt (hP b hb hlt).1)
theorem below_gr {w w' : World} (h : Below w.heap.size w w') : w.grownBy w' none := ⟨h.os, h.tape, h.output, h.size, fun k hk _ => h.block k hk⟩
theorem Ex.Ou.below {P Q : Nat → Prop} {A W : World} (hb : Below A.heap.size A W) (hP : ∀ b, P b → Q b) {e : Ex} (h : e.Ou P A) : e.Ou Q W := h.gr (below_gr hb) (fun b hb _ => ⟨by simp, hP b hb⟩)
theorem ouL_of {P : Nat → Prop} {W : World} {a : Option Addr} : ∀ (l : List Ex) (i : Nat), (∀ j x, l[j]? = some x → (∃ b o, a = some ⟨b, o, none⟩ ∧ P b ∧ ∀ m, m < 7 → W.cell? ⟨b, o + (i + j) * 7 + m, none⟩ = x.cells[m]?) ∧ x.Ou P W) → OuL P W a i l
  | [], _, _ => by rw [OuL]; trivial
  | e :: r, i, h => by
    rw [OuL]
    have h0 := h 0 e rfl
    refine ⟨h0.1, h0.2, ouL_of r (i + 1) fun j x hx => ?_⟩
    have := h (j + 1) x hx
    rwa [show i + (j + 1) = i + 1 + j from by omega] at this
end Go.Proofs.YtbeohmcmphebhaaDoor
