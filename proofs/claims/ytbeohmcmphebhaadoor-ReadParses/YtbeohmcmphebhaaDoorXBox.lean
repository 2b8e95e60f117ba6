import Derived.Test.YtbeohmcmphebhaaDoorXSame
import Derived.Test.YtbeohmcmphebhaaDoorXCheck
import Derived.Test.YtbeohmcmphebhaaDoorXQOwn
import Derived.Laws.Tables
import Derived.Laws.Rows
namespace Go.Proofs.YtbeohmcmphebhaaDoor
open Ex.same (sameL)
/-- An expression, wherever it lies. -/
def Ex.er : Ex → Ex
  | .mk k S t _ _ kids => .mk k S t none 0 (erL kids)
  where
  erL : List Ex → List Ex
    | [] => []
    | x :: r => Ex.er x :: erL r
open Ex.er (erL)
theorem erL_map : ∀ (l : List Ex), erL l = l.map Ex.er
  | [] => rfl
  | x :: r => by rw [erL, List.map_cons, erL_map r]
theorem same_er : ∀ (a b : Ex), a.same b = true ↔ a.er = b.er
  | .mk k S t _ _ kids, .mk k' S' t' _ _ kids' => by
    rw [same_iff, Ex.er, Ex.er]
    simp only [Ex.k, Ex.S, Ex.t, Ex.kids, Ex.mk.injEq, true_and]
    rw [sameL_er kids kids']
  where
  sameL_er : ∀ (l m : List Ex), sameL l m = true ↔ erL l = erL m
    | [], [] => by simp [sameL, erL]
    | [], _ :: _ => by simp [sameL, erL]
    | _ :: _, [] => by simp [sameL, erL]
    | x :: r, y :: s => by
      rw [sameL_cons, erL, erL, same_er x y, sameL_er r s]
      simp
theorem sameL_er : ∀ (l m : List Ex), sameL l m = true ↔ erL l = erL m := same_er.sameL_er
theorem er_eq (e : Ex) : e.er = .mk e.k e.S e.t none 0 (e.kids.map Ex.er) := by
  cases e with
  | mk k S t a c kids => rw [Ex.er, erL_map]; rfl
/-- A sign put behind. -/
def mkPost (c : UInt8) (e : Ex) : Ex := .mk (if c = 42 then 7 else if c = 43 then 8 else 9) 0#256 ⟨#[]⟩ none 0 [e]
def wrapP (e : Ex) : List UInt8 → Ex
  | [] => e
  | c :: p => wrapP (mkPost c e) p
theorem noS_iff (S : BitVec 256) (h : noS S = true) : S = 0#256 := by
  unfold noS at h
  simp only [Bool.and_eq_true, beq_iff_eq] at h
  obtain ⟨h0, h1, h2, h3⟩ := h
  exact wd_inj _ _ fun k hk => by
    rw [wd_zero]
    match k, hk with
    | 0, _ => exact h0
    | 1, _ => exact h1
    | 2, _ => exact h2
    | 3, _ => exact h3
/-- Of a kind with kids the rest is nothing. -/
theorem form_rest (e : Ex) (h : formOk e = true) (hk : 5 ≤ e.k) : e.S = 0#256 ∧ e.t = ⟨#[]⟩ := by
  unfold formOk at h
  rw [Bool.and_eq_true, Bool.and_eq_true] at h
  obtain ⟨⟨ht, hs⟩, _⟩ := h
  unfold textOk at ht
  rw [if_neg (by omega), if_neg (by omega)] at ht
  unfold setOk at hs
  rw [decide_eq_false (by omega : ¬ e.k = 2), Bool.false_or] at hs
  exact ⟨noS_iff _ hs, empty_of _ (of_decide_eq_true ht)⟩
theorem form_leaf (e : Ex) (h : formOk e = true) : (e.k ≠ 2 → e.S = 0#256) ∧ (e.k = 1 ∨ e.k = 2 → e.t = ⟨#[]⟩) := by
  unfold formOk at h
  rw [Bool.and_eq_true, Bool.and_eq_true] at h
  obtain ⟨⟨ht, hs⟩, _⟩ := h
  refine ⟨fun hk => ?_, fun hk => ?_⟩
  · unfold setOk at hs
    rw [decide_eq_false hk, Bool.false_or] at hs
    exact noS_iff _ hs
  · unfold textOk at ht
    rw [if_neg (by omega), if_neg (by omega)] at ht
    exact empty_of _ (of_decide_eq_true ht)
theorem okA_form {e : Ex} (h : e.okA = true) : formOk e = true := by rw [okA_eq, Bool.and_eq_true] at h; exact h.1
theorem star_er (a x : Ex) (h : formOk a = true) (h7 : 7 ≤ a.k ∧ a.k ≤ 9) (hk : a.kids = [x]) : a.er = mkPost (sgn a.k) x.er := by
  have hr := form_rest a h (by omega)
  rw [er_eq, hk, hr.1, hr.2]
  unfold mkPost sgn
  have : a.k = 7 ∨ a.k = 8 ∨ a.k = 9 := by omega
  rcases this with h1 | h1 | h1 <;> rw [h1] <;> rfl
theorem kid_one {a : Ex} (h : a.kids.length = 1) : ∃ x, a.kids = [x] := by
  match hk : a.kids, h with
  | [x], _ => exact ⟨x, rfl⟩
theorem join_cons2 (x y : List UInt8) (r : List (List UInt8)) (sep : List UInt8) : Lib.join (x :: y :: r) sep = x ++ (sep ++ Lib.join (y :: r) sep) := by
  rw [Lib.join_cons, Lib.join_cons]; simp [Lib.joinTail]
theorem lit_split (a b : List UInt8) (r s : List UInt8) (h : lit a ++ r = lit b ++ s) : a = b ∧ r = s := by
  have h1 := unlit_back a r
  have h2 := unlit_back b s
  rw [h, h2] at h1
  have h3 : b = a := by simpa using congrArg (fun o => o.map Prod.fst) h1
  subst h3
  exact ⟨rfl, List.append_cancel_left h⟩
theorem cls_split (a b : BitVec 256) (r s : List UInt8) (h : cls a ++ r = cls b ++ s) : a = b ∧ r = s := by
  have h1 := unclass_back a r
  have h2 := unclass_back b s
  rw [h, h2] at h1
  have h3 : b = a := by simpa using congrArg (fun o => o.map Prod.fst) h1
  subst h3
  exact ⟨rfl, List.append_cancel_left h⟩
/-- Lists of items with a text between are told, where each item is. -/
theorem list_split (f : Ex → List UInt8) (sep : List UInt8) (F G : List UInt8 → Prop) (hFs : ∀ t, F (sep ++ t)) (hG : ∀ r, G r → F r) (hne : ∀ y, y.okA = true → ∀ t, ¬ G (sep ++ (f y ++ t))) :
    ∀ (X Y : List Ex), (∀ x ∈ X, ∀ y : Ex, y.okA = true → ∀ r s, F r → F s → f x ++ r = f y ++ s → x.er = y.er ∧ r = s) → (∀ x ∈ X, x.okA = true) → (∀ y ∈ Y, y.okA = true) → X ≠ [] → Y ≠ [] → ∀ r s, G r → G s → Lib.join (X.map f) sep ++ r = Lib.join (Y.map f) sep ++ s → X.map Ex.er = Y.map Ex.er ∧ r = s
  | [], _, _, _, _, h, _, _, _, _, _, _ => absurd rfl h
  | _ :: _, [], _, _, _, _, h, _, _, _, _, _ => absurd rfl h
  | [x], [y], hU, _, hy, _, _, r, s, hr, hs, h => by
    rw [List.map_cons, List.map_nil, List.map_cons, List.map_nil, Lib.join_one, Lib.join_one] at h
    have := hU x List.mem_cons_self y (hy y List.mem_cons_self) r s (hG r hr) (hG s hs) h
    exact ⟨by rw [List.map_cons, List.map_nil, List.map_cons, List.map_nil, this.1], this.2⟩
  | [x], y :: y2 :: Y, hU, _, hy, _, _, r, s, hr, hs, h => by
    simp only [List.map_cons, List.map_nil, Lib.join_one, join_cons2, List.append_assoc] at h
    have h1 := hU x List.mem_cons_self y (hy y List.mem_cons_self) r _ (hG r hr) (hFs _) h
    refine absurd (h1.2 ▸ hr) ?_
    cases Y with
    | nil => rw [List.map_nil, Lib.join_one]; exact hne y2 (hy y2 (by simp)) s
    | cons y3 Y => rw [List.map_cons, join_cons2, List.append_assoc]; exact hne y2 (hy y2 (by simp)) _
  | x :: x2 :: X, [y], hU, hx, hy, _, _, r, s, hr, hs, h => by
    simp only [List.map_cons, List.map_nil, Lib.join_one, join_cons2, List.append_assoc] at h
    have h1 := hU x List.mem_cons_self y (hy y List.mem_cons_self) _ s (hFs _) (hG s hs) h
    refine absurd (h1.2.symm ▸ hs) ?_
    cases X with
    | nil => rw [List.map_nil, Lib.join_one]; exact hne x2 (hx x2 (by simp)) r
    | cons x3 X => rw [List.map_cons, join_cons2, List.append_assoc]; exact hne x2 (hx x2 (by simp)) _
  | x :: x2 :: X, y :: y2 :: Y, hU, hx, hy, _, _, r, s, hr, hs, h => by
    rw [List.map_cons, List.map_cons, List.map_cons, List.map_cons, join_cons2, join_cons2] at h
    simp only [List.append_assoc] at h
    have h1 := hU x List.mem_cons_self y (hy y List.mem_cons_self) _ _ (hFs _) (hFs _) h
    have h2 := List.append_cancel_left h1.2
    rw [← List.map_cons, ← List.map_cons] at h2
    have h3 := list_split f sep F G hFs hG hne (x2 :: X) (y2 :: Y) (fun z hz => hU z (List.mem_cons_of_mem _ hz)) (fun z hz => hx z (List.mem_cons_of_mem _ hz)) (fun z hz => hy z (List.mem_cons_of_mem _ hz)) (by simp) (by simp) r s hr hs h2
    exact ⟨by rw [List.map_cons, List.map_cons (l := y2 :: Y), h1.1, h3.1], h3.2⟩
end Go.Proofs.YtbeohmcmphebhaaDoor
namespace Go.Proofs.YtbeohmcmphebhaaDoor
open Go.RowKit
open Ex.er (erL)
set_option linter.unusedVariables false
theorem BoxN.frozen {W : World} {B : Nat} {t : TypeId} {cs : Array Value} (h : BoxN W B t cs) (j : Nat) : W.frozen? ⟨B, j, none⟩ = false := by simp [World.frozen?, show W.heap[B]? = _ from h]
theorem grown_row {w : World} {g : Nat} {t : TypeId} {old cs : Array Value} (h : BoxN w g t old) : BoxN (w.setRow g cs) g t cs ∧ w.grownBy (w.setRow g cs) (some g) :=
  ⟨setRow_heap w g old cs t (0, 0) h, ⟨rfl, rfl, rfl, by simp, fun k _ hk => setRow_other w g k cs (fun e => hk (by rw [e]))⟩⟩
/-- A whole row stored into a box. -/
theorem wpList_store_box {ops : Array Oper} {rest : List Oper} {o : Oper} {a : Act} {w : World} {Q : Exit → Act → World → Prop} (hgd : o.guard = none) (ty : TypeId) (x y : Operand) (ho : o.op = .store ty x y)
    (g : Nat) (cs : Array Value) (hx : a.eval x = .pointer (some ⟨g, 0, none⟩)) (hy : a.eval y = .agg cs) (old : Array Value) (hg : BoxN w g ty old) (hi : (Tryd.prog.info? ty).map (·.size) = some cs.size)
    (hold : old.size = cs.size) (h1 : cs.all (·.oneCell') = true)
    (h : ∀ w', BoxN w' g ty cs → w.grownBy w' (some g) → wpList Tryd.prog ops Q rest (a.put o.dst undef) w') : wpList Tryd.prog ops Q (o :: rest) a w :=
  wpList_store_row hgd ty x y ho g cs hx hy ty old hg hi hold h1 (h _ (grown_row hg).1 (grown_row hg).2)
theorem Tryd.info27 : (Tryd.prog.info? 27).map (·.size) = some 7 := by kernel_rfl
theorem Tryd.info58 : (Tryd.prog.info? 58).map (·.size) = some 10 := by kernel_rfl
theorem Tryd.info60 : (Tryd.prog.info? 60).map (·.size) = some 12 := by kernel_rfl
theorem Ex.one (e : Ex) : e.cells.all (·.oneCell') = true := by simp [Ex.cells, Value.oneCell']
/-- An expression's cells where nothing has been laid. -/
def z7 : Array Value := #[.int .i64 0, .int .u64 0, .int .u64 0, .int .u64 0, .int .u64 0, .string ⟨#[]⟩, .slice none 0 0]
theorem z7_eq : z7 = #[.int .i64 0, .int .u64 0, .int .u64 0, .int .u64 0, .int .u64 0, .string ⟨#[]⟩, .slice none 0 0] := rfl
/-! What stays where one block alone of the old ones may be turned. -/
theorem gr_refl (B : Nat) (w : World) : w.grownBy w (some B) := ⟨rfl, rfl, rfl, Nat.le_refl _, fun _ _ _ => rfl⟩
theorem gr_trans {B : Nat} {w w1 w2 : World} (h : w.grownBy w1 (some B)) (h2 : w1.grownBy w2 (some B)) : w.grownBy w2 (some B) := grown_trans h h2 (fun _ e _ => e)
theorem gr_alloc {B : Nat} {w w1 : World} (h : w.grownBy w1 (some B)) (o : Obj) : w.grownBy (w1.alloc o) (some B) :=
  ⟨h.os, h.tape, h.output, Nat.le_trans h.size (by simp), fun k hk hne => (Below.heap_alloc w1 o k (Nat.lt_of_lt_of_le hk h.size)).trans (h.block k hk hne)⟩
theorem gr_below {B : Nat} {w w1 w2 : World} (h : w.grownBy w1 (some B)) (hb : Below w1.heap.size w1 w2) : w.grownBy w2 (some B) :=
  ⟨hb.os.trans h.os, hb.tape.trans h.tape, hb.output.trans h.output, Nat.le_trans h.size hb.size, fun k hk hne => (hb.block k (Nat.lt_of_lt_of_le hk h.size)).trans (h.block k hk hne)⟩
/-- A block of the call's own was turned. -/
theorem gr_own {B g : Nat} {w w1 w2 : World} (h : w.grownBy w1 (some B)) (hb : w1.grownBy w2 (some g)) (hg : w.heap.size ≤ g) : w.grownBy w2 (some B) :=
  ⟨hb.os.trans h.os, hb.tape.trans h.tape, hb.output.trans h.output, Nat.le_trans h.size hb.size, fun k hk hne => (hb.block k (Nat.lt_of_lt_of_le hk h.size) (fun e => by cases e; omega)).trans (h.block k hk hne)⟩
theorem gr_drew {B : Nat} {w w1 : World} (h : w.grownBy w1 (some B)) : w.grownBy w1.drew (some B) := ⟨h.os, h.tape, h.output, h.size, h.block⟩
/-- An expression that lies in blocks of a kind. -/
def Ex.Ou (P : Nat → Prop) (W : World) : Ex → Prop
  | .mk _ _ t a _ kids => (kids.length ≤ 140737488355328 ∧ t.size ≤ 140737488355328) ∧ OuL P W a 0 kids
  where
  OuL (P : Nat → Prop) (W : World) (a : Option Addr) : Nat → List Ex → Prop
    | _, [] => True
    | i, e :: r => (∃ b o, a = some ⟨b, o, none⟩ ∧ P b ∧ ∀ j, j < 7 → W.cell? ⟨b, o + i * 7 + j, none⟩ = e.cells[j]?) ∧ Ex.Ou P W e ∧ OuL P W a (i + 1) r
open Ex.Ou (OuL)
open Ex.In (InL)
theorem cells7 (e : Ex) (j : Nat) (h : j < 7) : ∃ v, e.cells[j]? = some v := ⟨_, Array.getElem?_eq_getElem (by show j < 7; omega)⟩
theorem cell_lt {W : World} {b o : Nat} {v : Value} (h : W.cell? ⟨b, o, none⟩ = some v) : b < W.heap.size := by
  obtain ⟨ob, h1, _⟩ := isCells_of_cell h
  exact (Array.getElem?_eq_some_iff.1 h1).1
theorem Ex.Ou.inn {P : Nat → Prop} {W : World} : ∀ {e : Ex}, e.Ou P W → e.In W.heap.size W
  | .mk _ _ _ _ _ kids, h => by
    rw [Ex.Ou] at h
    rw [Ex.In]
    exact ⟨h.1, go kids h.2⟩
  where
  go {P : Nat → Prop} {W : World} {a : Option Addr} : ∀ {i : Nat} (l : List Ex), OuL P W a i l → InL W.heap.size W a i l
    | _, [], _ => by rw [InL]; trivial
    | i, e :: r, h => by
      rw [OuL] at h
      rw [InL]
      obtain ⟨⟨b, o, ha, hb, hc⟩, h1, h2⟩ := h
      refine ⟨⟨b, o, ha, ?_, hc⟩, Ex.Ou.inn h1, go r h2⟩
      obtain ⟨v, hv⟩ := cells7 e 0 (by omega)
      exact cell_lt ((hc 0 (by omega)).trans hv)
theorem Ex.Ou.gr {P Q : Nat → Prop} {A W : World} {row : Option Nat} (hg : A.grownBy W row) (hP : ∀ b, P b → b < A.heap.size → some b ≠ row ∧ Q b) : ∀ {e : Ex}, e.Ou P A → e.Ou Q W
  | .mk _ _ _ _ _ kids, h => by
    rw [Ex.Ou] at h ⊢
    exact ⟨h.1, go hg hP kids h.2⟩
  where
  go {P Q : Nat → Prop} {A W : World} {row : Option Nat} (hg : A.grownBy W row) (hP : ∀ b, P b → b < A.heap.size → some b ≠ row ∧ Q b) {a : Option Addr} : ∀ {i : Nat} (l : List Ex), OuL P A a i l → OuL Q W a i l
    | _, [], _ => by rw [OuL]; trivial
    | i, e :: r, h => by
      rw [OuL] at h ⊢
      obtain ⟨⟨b, o, ha, hb, hc⟩, h1, h2⟩ := h
      have hlt : b < A.heap.size := by
        obtain ⟨v, hv⟩ := cells7 e 0 (by omega)
        exact cell_lt ((hc 0 (by omega)).trans hv)
      refine ⟨⟨b, o, ha, (hP b hb hlt).2, fun j hj => ?_⟩, Ex.Ou.gr hg hP h1, go hg hP r h2⟩
      rw [← hc j hj]
      exact World.cell?_of_block (w := A) (hg.block b hlt (hP b hb hlt).1)
theorem below_gr {w w' : World} (h : Below w.heap.size w w') : w.grownBy w' none := ⟨h.os, h.tape, h.output, h.size, fun k hk _ => h.block k hk⟩
theorem Ex.Ou.below {P Q : Nat → Prop} {A W : World} (hb : Below A.heap.size A W) (hP : ∀ b, P b → Q b) {e : Ex} (h : e.Ou P A) : e.Ou Q W := h.gr (below_gr hb) (fun b hb _ => ⟨by simp, hP b hb⟩)
theorem ouL_of {P : Nat → Prop} {W : World} {a : Option Addr} : ∀ (l : List Ex) (i : Nat), (∀ j x, l[j]? = some x → (∃ b o, a = some ⟨b, o, none⟩ ∧ P b ∧ ∀ m, m < 7 → W.cell? ⟨b, o + (i + j) * 7 + m, none⟩ = x.cells[m]?) ∧ x.Ou P W) → OuL P W a i l
  | [], _, _ => by rw [OuL]; trivial
  | e :: r, i, h => by
    rw [OuL]
    have h0 := h 0 e rfl
    refine ⟨h0.1, h0.2, ouL_of r (i + 1) fun j x hx => ?_⟩
    have := h (j + 1) x hx
    rwa [show i + (j + 1) = i + 1 + j from by omega] at this
end Go.Proofs.YtbeohmcmphebhaaDoor
