import Derived.Test.YtbeohmcmphebhaaGreatDoorXSizeB
import Derived.Test.YtbeohmcmphebhaaGreatDoorXTk
import Derived.Lib.Join
import Derived.Test.YtbeohmcmphebhaaGreatDoorXUOps
namespace Go.Proofs.YtbeohmcmphebhaaGreatDoor
open Ex.size (sizeL)
open Ex.nodes (nodesL)
/-- Whether a set has all bytes. -/
def isFull (S : BitVec 256) : Bool := noS (~~~S)
/-- How tight a kind holds together. -/
def tight (k : Int) : Int := if k = 6 then 0 else if k = 5 then 1 else if k = 10 ∨ k = 11 then 2 else 3
/-- The sign behind a kind. -/
def sgn (k : Int) : UInt8 := if k = 7 then 42 else if k = 8 then 43 else 63
/-- A text within brackets, where it must be. -/
def brk (least k : Int) (t : List UInt8) : List UInt8 := if least ≤ tight k then t else [40] ++ t ++ [41]
/-- An expression as text. -/
def Ex.pr : Ex → List UInt8
  | .mk k S t _ _ kids =>
    if k = 1 then [40, 41]
    else if k = 2 then (if isFull S then [46] else cls S)
    else if k = 3 then lit t.data.toList
    else if k = 4 then t.data.toList
    else if k = 6 then Lib.join (prKs 1 kids) [32, 47, 32]
    else if k = 5 then Lib.join (prKs 2 kids) [32]
    else if k = 10 then [38] ++ (prKs 2 kids).headD []
    else if k = 11 then [33] ++ (prKs 2 kids).headD []
    else (prKs 3 kids).headD [] ++ [sgn k]
  where
  prKs (least : Int) : List Ex → List (List UInt8)
    | [] => []
    | x :: r => brk least x.k (Ex.pr x) :: prKs least r
open Ex.pr (prKs)
theorem pr_eq (e : Ex) : e.pr = (if e.k = 1 then [40, 41]
    else if e.k = 2 then (if isFull e.S then [46] else cls e.S)
    else if e.k = 3 then lit e.t.data.toList
    else if e.k = 4 then e.t.data.toList
    else if e.k = 6 then Lib.join (prKs 1 e.kids) [32, 47, 32]
    else if e.k = 5 then Lib.join (prKs 2 e.kids) [32]
    else if e.k = 10 then [38] ++ (prKs 2 e.kids).headD []
    else if e.k = 11 then [33] ++ (prKs 2 e.kids).headD []
    else (prKs 3 e.kids).headD [] ++ [sgn e.k]) := by
  cases e with
  | mk k S t a c kids => rw [Ex.pr]; rfl
theorem prKs_map (least : Int) : ∀ (l : List Ex), prKs least l = l.map fun x => brk least x.k x.pr
  | [] => rfl
  | x :: r => by rw [prKs, List.map_cons, prKs_map least r]
/-- All nodes are in their form. -/
def Ex.okA : Ex → Bool
  | .mk k S t a c kids => formOk (.mk k S t a c kids) && okL kids
  where
  okL : List Ex → Bool
    | [] => true
    | x :: r => Ex.okA x && okL r
open Ex.okA (okL)
theorem okA_eq (e : Ex) : e.okA = (formOk e && okL e.kids) := by
  cases e with
  | mk k S t a c kids => rw [Ex.okA]; rfl
theorem okL_mem : ∀ (l : List Ex), okL l = true → ∀ x ∈ l, x.okA = true
  | y :: r, h, x, hx => by
    rw [okL, Bool.and_eq_true] at h
    rcases List.mem_cons.1 hx with rfl | hx
    · exact h.1
    · exact okL_mem r h.2 x hx
theorem okA_kid {e x : Ex} (h : e.okA = true) (hx : x ∈ e.kids) : x.okA = true := by
  rw [okA_eq, Bool.and_eq_true] at h
  exact okL_mem _ h.2 x hx
theorem okA_of : ∀ (e : Ex) (d : Int), (∀ x ∈ e.nodes d, formOk x.2 = true) → e.okA = true
  | .mk k S t a c kids, d, h => by
    rw [Ex.nodes] at h
    rw [Ex.okA, Bool.and_eq_true]
    exact ⟨h _ List.mem_cons_self, okL_of kids _ fun x hx => h x (List.mem_cons_of_mem _ hx)⟩
  where
  okL_of : ∀ (l : List Ex) (d : Int), (∀ x ∈ nodesL d l, formOk x.2 = true) → okL l = true
    | [], _, _ => rfl
    | e :: r, d, h => by
      rw [nodesL] at h
      rw [okL, Bool.and_eq_true]
      exact ⟨okA_of e d fun x hx => h x (List.mem_append_left _ hx), okL_of r d fun x hx => h x (List.mem_append_right _ hx)⟩
theorem okL_of : ∀ (l : List Ex) (d : Int), (∀ x ∈ nodesL d l, formOk x.2 = true) → okL l = true := okA_of.okL_of
theorem okA_check (e : Ex) (h : check e = 0) : e.okA = true := okA_of e 1 fun x hx => (((check_zero e).1 h).2 x hx).2
/-- What a form says of the kids, by kind. -/
theorem form_kinds (e : Ex) (h : formOk e = true) : (e.k = 1 ∧ e.kids.length = 0 ∨ e.k = 2 ∧ e.kids.length = 0 ∨ e.k = 3 ∧ e.kids.length = 0 ∧ e.t.size ≤ 12 ∨ e.k = 4 ∧ e.kids.length = 0 ∧ e.t.size ≤ 8) ∨
    ((e.k = 5 ∨ e.k = 6) ∧ 2 ≤ e.kids.length ∧ e.kids.length ≤ 8) ∨ (7 ≤ e.k ∧ e.k ≤ 11 ∧ e.kids.length = 1) := by
  unfold formOk at h
  rw [Bool.and_eq_true, Bool.and_eq_true] at h
  obtain ⟨⟨ht, _⟩, hk⟩ := h
  unfold kidsOk at hk
  unfold textOk at ht
  by_cases h14 : e.k = 1 ∨ e.k = 2 ∨ e.k = 3 ∨ e.k = 4
  · rw [if_pos h14] at hk
    have hk := of_decide_eq_true hk
    left
    rcases h14 with h1 | h1 | h1 | h1
    · exact .inl ⟨h1, hk⟩
    · exact .inr (.inl ⟨h1, hk⟩)
    · rw [if_pos h1, Bool.and_eq_true] at ht
      exact .inr (.inr (.inl ⟨h1, hk, of_decide_eq_true ht.2⟩))
    · rw [if_neg (by omega), if_pos h1] at ht
      unfold isName at ht
      rw [Bool.and_eq_true] at ht
      exact .inr (.inr (.inr ⟨h1, hk, of_decide_eq_true ht.2⟩))
  · rw [if_neg h14] at hk
    by_cases h56 : e.k = 5 ∨ e.k = 6
    · rw [if_pos h56, Bool.and_eq_true] at hk
      exact .inr (.inl ⟨h56, of_decide_eq_true hk.1, of_decide_eq_true hk.2⟩)
    · rw [if_neg h56] at hk
      by_cases h7 : 7 ≤ e.k ∧ e.k ≤ 11
      · rw [if_pos h7] at hk
        exact .inr (.inr ⟨h7.1, h7.2, of_decide_eq_true hk⟩)
      · rw [if_neg h7] at hk; cases hk
theorem brk_len (least k : Int) (t : List UInt8) : (brk least k t).length ≤ t.length + 2 := by
  unfold brk; split <;> simp
theorem join_len (sep : List UInt8) (hs : sep.length ≤ 3) : ∀ (l : List (List UInt8)), (Lib.join l sep).length ≤ (l.map fun x => x.length + 3).sum
  | [] => by simp [Lib.join_nil]
  | x :: r => by
    rw [Lib.join_cons, List.map_cons, List.sum_cons, List.length_append]
    have h1 : ∀ (r : List (List UInt8)), (Lib.joinTail sep r).length ≤ (r.map fun x => x.length + 3).sum := by
      intro r
      induction r with
      | nil => simp [Lib.joinTail]
      | cons y r ih =>
        simp only [Lib.joinTail, List.map_cons, List.flatten_cons, List.length_append, List.sum_cons] at ih ⊢
        omega
    have := h1 r
    omega
theorem pr_len : ∀ (e : Ex), e.okA = true → e.pr.length + 5 ≤ 3000 * e.size
  | .mk k S t a c kids, h => by
    have hf : formOk (.mk k S t a c kids) = true := by rw [okA_eq, Bool.and_eq_true] at h; exact h.1
    have hk : okL kids = true := by rw [okA_eq, Bool.and_eq_true] at h; exact h.2
    have h1 := prKs_len 1 kids hk
    have h2 := prKs_len 2 kids hk
    have h3 := prKs_len 3 kids hk
    have hh : ∀ (least : Int), ((prKs least kids).headD []).length ≤ ((prKs least kids).map fun x => x.length + 3).sum := fun least => by
      cases prKs least kids with
      | nil => simp
      | cons x r => simp; omega
    have hh2 := hh 2
    have hh3 := hh 3
    have hj1 := join_len [32, 47, 32] (by simp) (prKs 1 kids)
    have hj2 := join_len [32] (by simp) (prKs 2 kids)
    have hkd := form_kinds _ hf
    have hl := flat_len 32 [39, 92] t.data.toList
    have hts : t.data.toList.length = t.size := rfl
    have hcl := cls_len S
    rw [Ex.size, Ex.pr]
    simp only [Ex.k, Ex.t, Ex.kids] at hkd
    by_cases e1 : k = 1
    · rw [if_pos e1]; simp; omega
    rw [if_neg e1]
    by_cases e2 : k = 2
    · rw [if_pos e2]; split <;> simp <;> omega
    rw [if_neg e2]
    by_cases e3 : k = 3
    · rw [if_pos e3]; unfold lit; simp only [List.length_cons, List.length_append, List.length_nil]; omega
    rw [if_neg e3]
    by_cases e4 : k = 4
    · rw [if_pos e4]; omega
    rw [if_neg e4]
    split
    · omega
    split
    · omega
    split
    · simp only [List.length_append, List.length_cons, List.length_nil]; omega
    split
    · simp only [List.length_append, List.length_cons, List.length_nil]; omega
    · simp only [List.length_append, List.length_cons, List.length_nil]; omega
  where
  prKs_len (least : Int) : ∀ (l : List Ex), okL l = true → ((prKs least l).map fun x => x.length + 3).sum ≤ 3000 * sizeL l
    | [], _ => by simp [prKs]
    | x :: r, h => by
      rw [okL, Bool.and_eq_true] at h
      have h1 := pr_len x h.1
      have h2 := prKs_len least r h.2
      have h3 := brk_len least x.k x.pr
      rw [prKs, List.map_cons, List.sum_cons, sizeL]
      omega
theorem prKs_len (least : Int) : ∀ (l : List Ex), okL l = true → ((prKs least l).map fun x => x.length + 3).sum ≤ 3000 * sizeL l := pr_len.prKs_len least
theorem prKs_take (least : Int) (l : List Ex) (i : Nat) (x : Ex) (h : l[i]? = some x) : prKs least (l.take (i + 1)) = prKs least (l.take i) ++ [brk least x.k x.pr] := by
  rw [prKs_map, prKs_map, List.take_add_one, h, Option.toList_some, List.map_append]
  rfl
theorem join_snoc (l : List (List UInt8)) (x sep : List UInt8) (h : l ≠ []) : Lib.join (l ++ [x]) sep = Lib.join l sep ++ sep ++ x := by
  cases l with
  | nil => exact absurd rfl h
  | cons y r => rw [List.cons_append, Lib.join_cons, Lib.join_cons]; simp [Lib.joinTail]
theorem prKs_length (least : Int) (l : List Ex) : (prKs least l).length = l.length := by rw [prKs_map]; simp
end Go.Proofs.YtbeohmcmphebhaaGreatDoor
namespace Go.Proofs.YtbeohmcmphebhaaGreatDoor
open Go.RowKit
set_option linter.unusedVariables false
def yes (_ : Nat) : Bool := true
theorem clo48 (k : Nat) (w : World) : Calls Tryz.prog 57 #[.int .i64 k] w fun e w' => e = .returned (.bool (yes k)) ∧ Below w.heap.size w w' := by
  go_enter Tryz.func57, Tryz.ntmps57
  go_wp2_with fail
  go_ret
  exact ⟨rfl, Below.refl _ _⟩
set_option maxHeartbeats 1000000 in
theorem where_48 (w : World) :
    Calls Tryz.prog 53 #[(.func (.func 57) #[] #[])] w fun e w' => e = .returned (.agg #[.int .u64 (wd (upto yes 256) 0), .int .u64 (wd (upto yes 256) 1), .int .u64 (wd (upto yes 256) 2), .int .u64 (wd (upto yes 256) 3)]) ∧ Below w.heap.size w w' := by
  go_enter Tryz.func53, Tryz.ntmps53
  go_wp2_with fail
  go_loopw [3, 4] (fun _ i wx => ∃ (k : Nat) (S : BitVec 256), i = .int .i64 k ∧ k ≤ 256 ∧ Hid (S = upto yes k) ∧ Below w.heap.size w wx ∧ Lies wx w.heap.size #[.int .u64 (wd S 0), .int .u64 (wd S 1), .int .u64 (wd S 2), .int .u64 (wd S 3)]) (fun _ i _ => 256 - (intOf i).toNat)
  case atStart => exact ⟨0, 0#256, rfl, by omega, rfl, (Below.refl _ _).alloc (Nat.le_refl _) _, by simp only [wd_zero]; exact Lies.new _ _⟩
  case round =>
    obtain ⟨k, S, rfl, hk, HS, hB, hL⟩ := hrel
    by_cases hh : (k : Int) < 256
    · go_wp2_with fail
      refine (clo48 k _).mono ?_
      rintro e w1 ⟨rfl, hb1⟩
      have hB1 := hB.trans (hb1.mono (by have := hL.lt; omega))
      have hL1 := hL.below hb1 hL.lt
      have hlt := hL1.lt
      clear hb1 hL hB
      have hq := at_word S k (by omega)
      have hc := hL1.cell (k / 64)
      have hf := hL1.frozen (k / 64)
      have hpk : yes k = true := rfl
      go_wp2_with fail
      go_region
      go_wp2_with fail
      refine ⟨⟨k + 1, S ||| BitVec.twoPow 256 k, by go_num, by omega, by rw [HS.out]; exact upto_step_yes yes k rfl, (hB1.setCell (by simp) _).drew, ?_⟩, by simp [intOf]; omega⟩
      have hs := (hL1.set (k / 64) (.int .u64 (IntKind.u64.wrap (wd S (k / 64) + IntKind.u64.wrap (2 ^ (k % 64)))))).drew
      rw [List.setIfInBounds_toArray, set_word S k (by omega) _ (wd_add_two S k (by omega) (by rw [HS.out, getLsbD_upto _ _ _ (by omega)]; simp))] at hs
      exact hs
    · have hc := hL.cell
      have hf := hL.frozen
      have hlt := hL.lt
      have hk2 : k = 256 := by omega
      go_wp2_with fail
      exact bodyPost_ret (v := .agg #[.int .u64 (wd S 0), .int .u64 (wd S 1), .int .u64 (wd S 2), .int .u64 (wd S 3)]) (by simp [results, Tryz.results53, go_sem, hc]) rfl ⟨by rw [HS.out, hk2], (((hB.setCell (by simp) _).setCell (by simp) _).setCell (by simp) _).setCell (by simp) _⟩
theorem upto_full : upto yes 256 = BitVec.allOnes 256 := by
  apply BitVec.eq_of_getLsbD_eq
  intro i hi
  rw [getLsbD_upto _ _ _ (by omega), BitVec.getLsbD_allOnes]
  simp [yes]
set_option maxHeartbeats 1000000 in
theorem full_any (w : World) :
    Calls Tryz.prog 28 #[] w fun e w' => e = .returned (.agg #[.int .u64 (wd (BitVec.allOnes 256) 0), .int .u64 (wd (BitVec.allOnes 256) 1), .int .u64 (wd (BitVec.allOnes 256) 2), .int .u64 (wd (BitVec.allOnes 256) 3)]) ∧ Below w.heap.size w w' := by
  have hw := where_48 (w.alloc (.cells #[.int .u64 0, .int .u64 0, .int .u64 0, .int .u64 0] 40))
  rw [upto_full] at hw
  generalize BitVec.allOnes 256 = F at *
  go_enter Tryz.func28, Tryz.ntmps28
  go_wp2_with (go_at_call 53; refine hw.mono ?_; rintro r w1 ⟨rfl, hb1⟩; have hL := (Lies.new w #[.int .u64 0, .int .u64 0, .int .u64 0, .int .u64 0]).below hb1 (by simp); have hB : Below w.heap.size w w1 := ((Below.refl w.heap.size w).alloc (Nat.le_refl _) _).trans (hb1.mono (by simp)); have hc := hL.cell; have hf := hL.frozen; have hlt := hL.lt; clear hb1)
  exact bodyPost_ret (v := .agg #[.int .u64 (wd F 0), .int .u64 (wd F 1), .int .u64 (wd F 2), .int .u64 (wd F 3)]) (by simp [results, Tryz.results28, go_sem, hc]) rfl ⟨rfl, (((hB.setCell (by simp) _).setCell (by simp) _).setCell (by simp) _).setCell (by simp) _⟩
theorem isFull_iff (S : BitVec 256) : isFull S = true ↔ S = BitVec.allOnes 256 := by
  unfold isFull noS
  simp only [Bool.and_eq_true, beq_iff_eq]
  constructor
  · rintro ⟨h0, h1, h2, h3⟩
    have : ~~~S = 0#256 := wd_inj _ _ fun k hk => by
      rw [wd_zero]
      match k, hk with
      | 0, _ => exact h0
      | 1, _ => exact h1
      | 2, _ => exact h2
      | 3, _ => exact h3
    rw [← BitVec.not_not (b := S), this]
    simp
  · rintro rfl
    rw [show ~~~(BitVec.allOnes 256) = 0#256 from by simp]
    exact ⟨wd_zero 0, wd_zero 1, wd_zero 2, wd_zero 3⟩
/-- The reference asks whether a set is all there is. -/
theorem full_test (S : BitVec 256) : ((wd S 0 == wd (BitVec.allOnes 256) 0) && ((wd S 1 == wd (BitVec.allOnes 256) 1) && ((wd S 2 == wd (BitVec.allOnes 256) 2) && (wd S 3 == wd (BitVec.allOnes 256) 3)))) = isFull S := by
  rw [Bool.eq_iff_iff, isFull_iff]
  simp only [Bool.and_eq_true, beq_iff_eq]
  constructor
  · rintro ⟨h0, h1, h2, h3⟩
    exact wd_inj _ _ fun k hk => by
      match k, hk with
      | 0, _ => exact h0
      | 1, _ => exact h1
      | 2, _ => exact h2
      | 3, _ => exact h3
  · rintro rfl
    exact ⟨rfl, rfl, rfl, rfl⟩
end Go.Proofs.YtbeohmcmphebhaaGreatDoor
namespace Go.Proofs.YtbeohmcmphebhaaGreatDoor
open Ex.pr (prKs)
/-- Whether two expressions are the same, wherever they lie. -/
def Ex.same : Ex → Ex → Bool
  | .mk k S t _ _ kids, .mk k' S' t' _ _ kids' => decide (k = k') && decide (S = S') && decide (t = t') && sameL kids kids'
  where
  sameL : List Ex → List Ex → Bool
    | [], [] => true
    | x :: r, y :: s => Ex.same x y && sameL r s
    | _, _ => false
open Ex.same (sameL)
theorem same_iff (a b : Ex) : a.same b = true ↔ a.k = b.k ∧ a.S = b.S ∧ a.t = b.t ∧ sameL a.kids b.kids = true := by
  cases a with
  | mk k S t x c kids =>
    cases b with
    | mk k' S' t' x' c' kids' =>
      rw [Ex.same]
      simp only [Bool.and_eq_true, decide_eq_true_eq, Ex.k, Ex.S, Ex.t, Ex.kids]
      constructor
      · rintro ⟨⟨⟨h1, h2⟩, h3⟩, h4⟩; exact ⟨h1, h2, h3, h4⟩
      · rintro ⟨h1, h2, h3, h4⟩; exact ⟨⟨⟨h1, h2⟩, h3⟩, h4⟩
theorem sameL_cons (x y : Ex) (r s : List Ex) : sameL (x :: r) (y :: s) = true ↔ x.same y = true ∧ sameL r s = true := by
  rw [sameL, Bool.and_eq_true]
theorem same_pr : ∀ (a b : Ex), a.same b = true → a.pr = b.pr ∧ a.k = b.k
  | .mk k S t _ _ kids, .mk k' S' t' _ _ kids', h => by
    rw [same_iff] at h
    simp only [Ex.k, Ex.S, Ex.t, Ex.kids] at h
    obtain ⟨rfl, rfl, rfl, h4⟩ := h
    have hL := fun least => sameL_pr least kids kids' h4
    refine ⟨?_, rfl⟩
    rw [Ex.pr, Ex.pr, hL 1, hL 2, hL 3]
  where
  sameL_pr (least : Int) : ∀ (l m : List Ex), sameL l m = true → prKs least l = prKs least m
    | [], [], _ => rfl
    | [], _ :: _, h => by simp [sameL] at h
    | _ :: _, [], h => by simp [sameL] at h
    | x :: r, y :: s, h => by
      rw [sameL_cons] at h
      have h1 := same_pr x y h.1
      rw [prKs, prKs, h1.1, h1.2, sameL_pr least r s h.2]
theorem sameL_pr (least : Int) : ∀ (l m : List Ex), sameL l m = true → prKs least l = prKs least m := same_pr.sameL_pr least
/-- An expression's text where brackets are asked for. -/
def Ex.bt (least : Int) (x : Ex) : List UInt8 := brk least x.k x.pr
/-- A sign that may stand behind. -/
def isPost (c : UInt8) : Prop := c = 42 ∨ c = 43 ∨ c = 63
/-- What may follow behind what holds tight: no sign that belongs to it. -/
def fol2 (r : List UInt8) : Prop := ∀ c s, r = c :: s → ¬ isPost c ∧ okc c = false
def fol1 (r : List UInt8) : Prop := r = [] ∨ (∃ s, r = 41 :: s) ∨ (∃ s, r = 32 :: 47 :: s)
def fol0 (r : List UInt8) : Prop := r = [] ∨ ∃ s, r = 41 :: s
theorem fol0_1 {r : List UInt8} (h : fol0 r) : fol1 r := by
  rcases h with h | h
  · exact .inl h
  · exact .inr (.inl h)
theorem not_post41 : ¬ isPost 41 ∧ okc 41 = false := ⟨by unfold isPost; decide, by decide⟩
theorem not_post32 : ¬ isPost 32 ∧ okc 32 = false := ⟨by unfold isPost; decide, by decide⟩
theorem fol1_2 {r : List UInt8} (h : fol1 r) : fol2 r := by
  intro c s hr
  rcases h with h | ⟨s', h⟩ | ⟨s', h⟩
  · rw [h] at hr; cases hr
  · rw [h] at hr; cases hr; exact not_post41
  · rw [h] at hr; cases hr; exact not_post32
theorem fol2_sp (s : List UInt8) : fol2 (32 :: s) := fun c t h => by cases h; exact not_post32
theorem post_not_ok (c : UInt8) (h : isPost c) : okc c = false := by
  rcases h with rfl | rfl | rfl <;> decide
theorem sgn_post (k : Int) : isPost (sgn k) := by
  unfold sgn isPost
  split
  · simp
  split
  · simp
  · simp
/-- Within a row of signs that stand behind, and what follows, the signs are told. -/
theorem post_split : ∀ (p q r s : List UInt8), (∀ c ∈ p, isPost c) → (∀ c ∈ q, isPost c) → fol2 r → fol2 s → p ++ r = q ++ s → p = q ∧ r = s
  | [], [], r, s, _, _, _, _, h => ⟨rfl, h⟩
  | [], c :: q, r, s, _, hq, hr, _, h => absurd (hq c List.mem_cons_self) (hr c _ h).1
  | c :: p, [], r, s, hp, _, _, hs, h => absurd (hp c List.mem_cons_self) (hs c _ h.symm).1
  | c :: p, d :: q, r, s, hp, hq, hr, hs, h => by
    simp only [List.cons_append, List.cons.injEq] at h
    obtain ⟨h1, h2⟩ := post_split p q r s (fun x hx => hp x (List.mem_cons_of_mem _ hx)) (fun x hx => hq x (List.mem_cons_of_mem _ hx)) hr hs h.2
    exact ⟨by rw [h.1, h1], h2⟩
/-- Names are told by what follows. -/
theorem name_split : ∀ (p q r s : List UInt8), (∀ c ∈ p, okc c = true) → (∀ c ∈ q, okc c = true) → (∀ c t, r = c :: t → okc c = false) → (∀ c t, s = c :: t → okc c = false) → p ++ r = q ++ s → p = q ∧ r = s
  | [], [], r, s, _, _, _, _, h => ⟨rfl, h⟩
  | [], c :: q, r, s, _, hq, hr, _, h => by have h1 := hr c _ h; rw [hq c List.mem_cons_self] at h1; cases h1
  | c :: p, [], r, s, hp, _, _, hs, h => by have h1 := hs c _ h.symm; rw [hp c List.mem_cons_self] at h1; cases h1
  | c :: p, d :: q, r, s, hp, hq, hr, hs, h => by
    simp only [List.cons_append, List.cons.injEq] at h
    obtain ⟨h1, h2⟩ := name_split p q r s (fun x hx => hp x (List.mem_cons_of_mem _ hx)) (fun x hx => hq x (List.mem_cons_of_mem _ hx)) hr hs h.2
    exact ⟨by rw [h.1, h1], h2⟩
theorem name_ok (t : ByteArray) (h : isName t.data.toList = true) : (∀ c ∈ t.data.toList, okc c = true) ∧ ∃ c r, t.data.toList = c :: r ∧ isL (c.toNat : Int) = true := by
  unfold isName at h
  simp only [Bool.and_eq_true] at h
  cases hl : t.data.toList with
  | nil => rw [hl] at h; simp at h
  | cons c r =>
    rw [hl] at h
    have h1 := h.1.1
    simp only [part, Bool.and_eq_true, List.all_eq_true] at h1
    refine ⟨fun x hx => ?_, c, r, rfl, h1.1⟩
    rcases List.mem_cons.1 hx with rfl | hx
    · unfold okc; rw [h1.1]; rfl
    · exact h1.2 x hx
end Go.Proofs.YtbeohmcmphebhaaGreatDoor
namespace Go.Proofs.YtbeohmcmphebhaaGreatDoor
open Ex.same (sameL)
/-- An expression, wherever it lies. -/
def Ex.er : Ex → Ex
  | .mk k S t _ _ kids => .mk k S t none 0 (erL kids)
  where
  erL : List Ex → List Ex
    | [] => []
    | x :: r => Ex.er x :: erL r
open Ex.er (erL)
theorem erL_map : ∀ (l : List Ex), erL l = l.map Ex.er
  | [] => rfl
  | x :: r => by rw [erL, List.map_cons, erL_map r]
theorem same_er : ∀ (a b : Ex), a.same b = true ↔ a.er = b.er
  | .mk k S t _ _ kids, .mk k' S' t' _ _ kids' => by
    rw [same_iff, Ex.er, Ex.er]
    simp only [Ex.k, Ex.S, Ex.t, Ex.kids, Ex.mk.injEq, true_and]
    rw [sameL_er kids kids']
  where
  sameL_er : ∀ (l m : List Ex), sameL l m = true ↔ erL l = erL m
    | [], [] => by simp [sameL, erL]
    | [], _ :: _ => by simp [sameL, erL]
    | _ :: _, [] => by simp [sameL, erL]
    | x :: r, y :: s => by
      rw [sameL_cons, erL, erL, same_er x y, sameL_er r s]
      simp
theorem sameL_er : ∀ (l m : List Ex), sameL l m = true ↔ erL l = erL m := same_er.sameL_er
theorem er_eq (e : Ex) : e.er = .mk e.k e.S e.t none 0 (e.kids.map Ex.er) := by
  cases e with
  | mk k S t a c kids => rw [Ex.er, erL_map]; rfl
/-- A sign put behind. -/
def mkPost (c : UInt8) (e : Ex) : Ex := .mk (if c = 42 then 7 else if c = 43 then 8 else 9) 0#256 ⟨#[]⟩ none 0 [e]
def wrapP (e : Ex) : List UInt8 → Ex
  | [] => e
  | c :: p => wrapP (mkPost c e) p
theorem noS_iff (S : BitVec 256) (h : noS S = true) : S = 0#256 := by
  unfold noS at h
  simp only [Bool.and_eq_true, beq_iff_eq] at h
  obtain ⟨h0, h1, h2, h3⟩ := h
  exact wd_inj _ _ fun k hk => by
    rw [wd_zero]
    match k, hk with
    | 0, _ => exact h0
    | 1, _ => exact h1
    | 2, _ => exact h2
    | 3, _ => exact h3
/-- Of a kind with kids the rest is nothing. -/
theorem form_rest (e : Ex) (h : formOk e = true) (hk : 5 ≤ e.k) : e.S = 0#256 ∧ e.t = ⟨#[]⟩ := by
  unfold formOk at h
  rw [Bool.and_eq_true, Bool.and_eq_true] at h
  obtain ⟨⟨ht, hs⟩, _⟩ := h
  unfold textOk at ht
  rw [if_neg (by omega), if_neg (by omega)] at ht
  unfold setOk at hs
  rw [decide_eq_false (by omega : ¬ e.k = 2), Bool.false_or] at hs
  exact ⟨noS_iff _ hs, empty_of _ (of_decide_eq_true ht)⟩
theorem form_leaf (e : Ex) (h : formOk e = true) : (e.k ≠ 2 → e.S = 0#256) ∧ (e.k = 1 ∨ e.k = 2 → e.t = ⟨#[]⟩) := by
  unfold formOk at h
  rw [Bool.and_eq_true, Bool.and_eq_true] at h
  obtain ⟨⟨ht, hs⟩, _⟩ := h
  refine ⟨fun hk => ?_, fun hk => ?_⟩
  · unfold setOk at hs
    rw [decide_eq_false hk, Bool.false_or] at hs
    exact noS_iff _ hs
  · unfold textOk at ht
    rw [if_neg (by omega), if_neg (by omega)] at ht
    exact empty_of _ (of_decide_eq_true ht)
theorem okA_form {e : Ex} (h : e.okA = true) : formOk e = true := by rw [okA_eq, Bool.and_eq_true] at h; exact h.1
theorem star_er (a x : Ex) (h : formOk a = true) (h7 : 7 ≤ a.k ∧ a.k ≤ 9) (hk : a.kids = [x]) : a.er = mkPost (sgn a.k) x.er := by
  have hr := form_rest a h (by omega)
  rw [er_eq, hk, hr.1, hr.2]
  unfold mkPost sgn
  have : a.k = 7 ∨ a.k = 8 ∨ a.k = 9 := by omega
  rcases this with h1 | h1 | h1 <;> rw [h1] <;> rfl
theorem kid_one {a : Ex} (h : a.kids.length = 1) : ∃ x, a.kids = [x] := by
  match hk : a.kids, h with
  | [x], _ => exact ⟨x, rfl⟩
theorem join_cons2 (x y : List UInt8) (r : List (List UInt8)) (sep : List UInt8) : Lib.join (x :: y :: r) sep = x ++ (sep ++ Lib.join (y :: r) sep) := by
  rw [Lib.join_cons, Lib.join_cons]; simp [Lib.joinTail]
theorem lit_split (a b : List UInt8) (r s : List UInt8) (h : lit a ++ r = lit b ++ s) : a = b ∧ r = s := by
  have h1 := unlit_back a r
  have h2 := unlit_back b s
  rw [h, h2] at h1
  have h3 : b = a := by simpa using congrArg (fun o => o.map Prod.fst) h1
  subst h3
  exact ⟨rfl, List.append_cancel_left h⟩
theorem cls_split (a b : BitVec 256) (r s : List UInt8) (h : cls a ++ r = cls b ++ s) : a = b ∧ r = s := by
  have h1 := unclass_back a r
  have h2 := unclass_back b s
  rw [h, h2] at h1
  have h3 : b = a := by simpa using congrArg (fun o => o.map Prod.fst) h1
  subst h3
  exact ⟨rfl, List.append_cancel_left h⟩
/-- Lists of items with a text between are told, where each item is. -/
theorem list_split (f : Ex → List UInt8) (sep : List UInt8) (F G : List UInt8 → Prop) (hFs : ∀ t, F (sep ++ t)) (hG : ∀ r, G r → F r) (hne : ∀ y, y.okA = true → ∀ t, ¬ G (sep ++ (f y ++ t))) :
    ∀ (X Y : List Ex), (∀ x ∈ X, ∀ y : Ex, y.okA = true → ∀ r s, F r → F s → f x ++ r = f y ++ s → x.er = y.er ∧ r = s) → (∀ x ∈ X, x.okA = true) → (∀ y ∈ Y, y.okA = true) → X ≠ [] → Y ≠ [] → ∀ r s, G r → G s → Lib.join (X.map f) sep ++ r = Lib.join (Y.map f) sep ++ s → X.map Ex.er = Y.map Ex.er ∧ r = s
  | [], _, _, _, _, h, _, _, _, _, _, _ => absurd rfl h
  | _ :: _, [], _, _, _, _, h, _, _, _, _, _ => absurd rfl h
  | [x], [y], hU, _, hy, _, _, r, s, hr, hs, h => by
    rw [List.map_cons, List.map_nil, List.map_cons, List.map_nil, Lib.join_one, Lib.join_one] at h
    have := hU x List.mem_cons_self y (hy y List.mem_cons_self) r s (hG r hr) (hG s hs) h
    exact ⟨by rw [List.map_cons, List.map_nil, List.map_cons, List.map_nil, this.1], this.2⟩
  | [x], y :: y2 :: Y, hU, _, hy, _, _, r, s, hr, hs, h => by
    simp only [List.map_cons, List.map_nil, Lib.join_one, join_cons2, List.append_assoc] at h
    have h1 := hU x List.mem_cons_self y (hy y List.mem_cons_self) r _ (hG r hr) (hFs _) h
    refine absurd (h1.2 ▸ hr) ?_
    cases Y with
    | nil => rw [List.map_nil, Lib.join_one]; exact hne y2 (hy y2 (by simp)) s
    | cons y3 Y => rw [List.map_cons, join_cons2, List.append_assoc]; exact hne y2 (hy y2 (by simp)) _
  | x :: x2 :: X, [y], hU, hx, hy, _, _, r, s, hr, hs, h => by
    simp only [List.map_cons, List.map_nil, Lib.join_one, join_cons2, List.append_assoc] at h
    have h1 := hU x List.mem_cons_self y (hy y List.mem_cons_self) _ s (hFs _) (hG s hs) h
    refine absurd (h1.2.symm ▸ hs) ?_
    cases X with
    | nil => rw [List.map_nil, Lib.join_one]; exact hne x2 (hx x2 (by simp)) r
    | cons x3 X => rw [List.map_cons, join_cons2, List.append_assoc]; exact hne x2 (hx x2 (by simp)) _
  | x :: x2 :: X, y :: y2 :: Y, hU, hx, hy, _, _, r, s, hr, hs, h => by
    rw [List.map_cons, List.map_cons, List.map_cons, List.map_cons, join_cons2, join_cons2] at h
    simp only [List.append_assoc] at h
    have h1 := hU x List.mem_cons_self y (hy y List.mem_cons_self) _ _ (hFs _) (hFs _) h
    have h2 := List.append_cancel_left h1.2
    rw [← List.map_cons, ← List.map_cons] at h2
    have h3 := list_split f sep F G hFs hG hne (x2 :: X) (y2 :: Y) (fun z hz => hU z (List.mem_cons_of_mem _ hz)) (fun z hz => hx z (List.mem_cons_of_mem _ hz)) (fun z hz => hy z (List.mem_cons_of_mem _ hz)) (by simp) (by simp) r s hr hs h2
    exact ⟨by rw [List.map_cons, List.map_cons (l := y2 :: Y), h1.1, h3.1], h3.2⟩
end Go.Proofs.YtbeohmcmphebhaaGreatDoor
namespace Go.Proofs.YtbeohmcmphebhaaGreatDoor
open Ex.pr (prKs)
def U2 (a b : Ex) : Prop := ∀ r s, fol2 r → fol2 s → a.bt 2 ++ r = b.bt 2 ++ s → a.er = b.er ∧ r = s
def U1 (a b : Ex) : Prop := ∀ r s, fol1 r → fol1 s → a.bt 1 ++ r = b.bt 1 ++ s → a.er = b.er ∧ r = s
def U0 (a b : Ex) : Prop := ∀ r s, fol0 r → fol0 s → a.pr ++ r = b.pr ++ s → a.er = b.er ∧ r = s
theorem isL_ne (c : UInt8) (h : isL (c.toNat : Int) = true) : c ≠ 41 ∧ c ≠ 47 ∧ c ≠ 40 ∧ c ≠ 46 ∧ c ≠ 91 ∧ c ≠ 39 ∧ c ≠ 38 ∧ c ≠ 33 := by
  refine ⟨?_, ?_, ?_, ?_, ?_, ?_, ?_, ?_⟩ <;> (rintro rfl; revert h; decide)
/-- How an expression's text begins, where it stands by itself. -/
theorem bt_head (least : Int) (x : Ex) (h : ∃ c t, x.pr = c :: t ∧ c ≠ 41 ∧ c ≠ 47) : ∃ c t, x.bt least = c :: t ∧ c ≠ 41 ∧ c ≠ 47 := by
  unfold Ex.bt brk
  split
  · exact h
  · exact ⟨40, _, rfl, by decide, by decide⟩
theorem join_head (l : List (List UInt8)) (sep : List UInt8) (h : ∃ c t r, l = (c :: t) :: r ∧ c ≠ 41 ∧ c ≠ 47) : ∃ c t, Lib.join l sep = c :: t ∧ c ≠ 41 ∧ c ≠ 47 := by
  obtain ⟨c, t, r, rfl, h1, h2⟩ := h
  rw [Lib.join_cons]
  exact ⟨c, _, rfl, h1, h2⟩
theorem pr_head : ∀ (n : Nat) (e : Ex), e.size ≤ n → e.okA = true → ∃ c t, e.pr = c :: t ∧ c ≠ 41 ∧ c ≠ 47 := by
  intro n
  induction n with
  | zero => intro e he; rw [size_eq] at he; omega
  | succ n ih =>
    intro e he hok
    have hf := okA_form hok
    have hkid : ∀ least, e.kids ≠ [] → ∃ c t r, prKs least e.kids = (c :: t) :: r ∧ c ≠ 41 ∧ c ≠ 47 := fun least hne => by
      match hk : e.kids, hne with
      | x :: r, _ =>
        have hx : x ∈ e.kids := by rw [hk]; exact List.mem_cons_self
        have h1 := size_kid hx
        obtain ⟨c, t, h2, h3⟩ := bt_head least x (ih x (by omega) (okA_kid hok hx))
        refine ⟨c, t, prKs least r, ?_, h3⟩
        rw [prKs]
        unfold Ex.bt at h2
        rw [h2]
    rw [pr_eq]
    rcases form_kinds e hf with (⟨h1, _⟩ | ⟨h1, _⟩ | ⟨h1, _, h2⟩ | ⟨h1, _, h2⟩) | ⟨h1 | h1, h2, _⟩ | ⟨h1, h2, h3⟩
    · rw [if_pos h1]; exact ⟨40, _, rfl, by decide, by decide⟩
    · rw [if_neg (by omega), if_pos h1]
      split
      · exact ⟨46, _, rfl, by decide, by decide⟩
      · exact ⟨91, _, rfl, by decide, by decide⟩
    · rw [if_neg (by omega), if_neg (by omega), if_pos h1]; exact ⟨39, _, rfl, by decide, by decide⟩
    · rw [if_neg (by omega), if_neg (by omega), if_neg (by omega), if_pos h1]
      have hnm : isName e.t.data.toList = true := by
        unfold formOk at hf
        rw [Bool.and_eq_true, Bool.and_eq_true] at hf
        have ht := hf.1.1
        unfold textOk at ht
        rwa [if_neg (by omega), if_pos h1] at ht
      obtain ⟨_, c, r, hc, hl⟩ := name_ok e.t hnm
      exact ⟨c, r, hc, (isL_ne c hl).1, (isL_ne c hl).2.1⟩
    · have hne : e.kids ≠ [] := by intro h; rw [h] at h2; simp at h2
      rw [if_neg (by omega), if_neg (by omega), if_neg (by omega), if_neg (by omega), if_neg (by omega), if_pos h1]
      exact join_head _ _ (hkid 2 hne)
    · have hne : e.kids ≠ [] := by intro h; rw [h] at h2; simp at h2
      rw [if_neg (by omega), if_neg (by omega), if_neg (by omega), if_neg (by omega), if_pos h1]
      exact join_head _ _ (hkid 1 hne)
    · have hne : e.kids ≠ [] := by intro h; rw [h] at h3; simp at h3
      rw [if_neg (by omega), if_neg (by omega), if_neg (by omega), if_neg (by omega), if_neg (by omega), if_neg (by omega)]
      split
      · exact ⟨38, _, rfl, by decide, by decide⟩
      split
      · exact ⟨33, _, rfl, by decide, by decide⟩
      · obtain ⟨c, t, r, h4, h5⟩ := hkid 3 hne
        rw [h4]
        exact ⟨c, _, rfl, h5⟩
/-- What stands side by side in a sequence, and what is chosen from. -/
def items2 (x : Ex) : List Ex := if x.k = 5 then x.kids else [x]
def items1 (x : Ex) : List Ex := if x.k = 6 then x.kids else [x]
theorem tight_cases (k : Int) : (k = 6 ∧ tight k = 0) ∨ (k = 5 ∧ tight k = 1) ∨ ((k = 10 ∨ k = 11) ∧ tight k = 2) ∨ (k ≠ 6 ∧ k ≠ 5 ∧ k ≠ 10 ∧ k ≠ 11 ∧ tight k = 3) := by
  unfold tight
  by_cases h6 : k = 6
  · exact .inl ⟨h6, if_pos h6⟩
  by_cases h5 : k = 5
  · exact .inr (.inl ⟨h5, by rw [if_neg h6, if_pos h5]⟩)
  by_cases h10 : k = 10 ∨ k = 11
  · exact .inr (.inr (.inl ⟨h10, by rw [if_neg h6, if_neg h5, if_pos h10]⟩))
  · exact .inr (.inr (.inr ⟨h6, h5, by omega, by omega, by rw [if_neg h6, if_neg h5, if_neg h10]⟩))
theorem bt_pr (least : Int) (x : Ex) (h : least ≤ tight x.k) : x.bt least = x.pr := by unfold Ex.bt brk; rw [if_pos h]
theorem bt_brk (least : Int) (x : Ex) (h : ¬ least ≤ tight x.k) : x.bt least = [40] ++ x.pr ++ [41] := by unfold Ex.bt brk; rw [if_neg h]
theorem bt1_items (x : Ex) : x.bt 1 = Lib.join ((items2 x).map (Ex.bt 2)) [32] := by
  unfold items2
  have ht := tight_cases x.k
  by_cases h5 : x.k = 5
  · rw [if_pos h5, bt_pr 1 x (by omega), pr_eq, if_neg (by omega), if_neg (by omega), if_neg (by omega), if_neg (by omega), if_neg (by omega), if_pos h5, prKs_map]
    rfl
  · rw [if_neg h5, List.map_cons, List.map_nil, Lib.join_one]
    by_cases h6 : x.k = 6
    · rw [bt_brk 1 x (by omega), bt_brk 2 x (by omega)]
    · rw [bt_pr 1 x (by omega), bt_pr 2 x (by omega)]
theorem pr_items (x : Ex) : x.pr = Lib.join ((items1 x).map (Ex.bt 1)) [32, 47, 32] := by
  unfold items1
  have ht := tight_cases x.k
  by_cases h6 : x.k = 6
  · rw [if_pos h6, pr_eq, if_neg (by omega), if_neg (by omega), if_neg (by omega), if_neg (by omega), if_pos h6, prKs_map]
    rfl
  · rw [if_neg h6, List.map_cons, List.map_nil, Lib.join_one, bt_pr 1 x (by omega)]
theorem items2_ok {x : Ex} (h : x.okA = true) : ∀ y ∈ items2 x, y.okA = true := by
  intro y hy
  unfold items2 at hy
  split at hy
  · exact okA_kid h hy
  · simp at hy; rw [hy]; exact h
theorem items1_ok {x : Ex} (h : x.okA = true) : ∀ y ∈ items1 x, y.okA = true := by
  intro y hy
  unfold items1 at hy
  split at hy
  · exact okA_kid h hy
  · simp at hy; rw [hy]; exact h
theorem kids_two {x : Ex} (h : x.okA = true) (hk : x.k = 5 ∨ x.k = 6) : 2 ≤ x.kids.length := by
  rcases form_kinds x (okA_form h) with (⟨h1, _⟩ | ⟨h1, _⟩ | ⟨h1, _⟩ | ⟨h1, _⟩) | ⟨h1, h2, _⟩ | ⟨h1, h2, h3⟩
  all_goals omega
theorem items_er (K : Int) (hK : K = 5 ∨ K = 6) (x y : Ex) (hx : x.okA = true) (hy : y.okA = true) (h : (if x.k = K then x.kids else [x]).map Ex.er = (if y.k = K then y.kids else [y]).map Ex.er) : x.er = y.er := by
  have hl := congrArg List.length h
  simp only [List.length_map] at hl
  by_cases hxk : x.k = K
  · by_cases hyk : y.k = K
    · rw [if_pos hxk, if_pos hyk] at h
      have h1 := form_rest x (okA_form hx) (by omega)
      have h2 := form_rest y (okA_form hy) (by omega)
      rw [er_eq, er_eq, h, h1.1, h1.2, h2.1, h2.2, hxk, hyk]
    · rw [if_pos hxk, if_neg hyk] at hl
      have := kids_two hx (by omega)
      simp at hl; omega
  · by_cases hyk : y.k = K
    · rw [if_neg hxk, if_pos hyk] at hl
      have := kids_two hy (by omega)
      simp at hl; omega
    · rw [if_neg hxk, if_neg hyk] at h
      simpa using h
theorem items2_ne {x : Ex} (h : x.okA = true) : items2 x ≠ [] := by
  unfold items2
  split
  · rename_i hk
    have := kids_two h (.inl hk)
    intro h0; rw [h0] at this; simp at this
  · simp
theorem items1_ne {x : Ex} (h : x.okA = true) : items1 x ≠ [] := by
  unfold items1
  split
  · rename_i hk
    have := kids_two h (.inr hk)
    intro h0; rw [h0] at this; simp at this
  · simp
theorem bt_first (least : Int) (y : Ex) (hy : y.okA = true) : ∃ c t, y.bt least = c :: t ∧ c ≠ 41 ∧ c ≠ 47 := bt_head least y (pr_head y.size y (Nat.le_refl _) hy)
theorem U1_of (x : Ex) (hx : x.okA = true) (H : ∀ u ∈ items2 x, ∀ b : Ex, b.okA = true → U2 u b) (y : Ex) (hy : y.okA = true) : U1 x y := fun r s hr hs h => by
  rw [bt1_items x, bt1_items y] at h
  have := list_split (Ex.bt 2) [32] fol2 fol1 (fun t => fol2_sp t) (fun r hr => fol1_2 hr) (fun z hz t hg => by
    obtain ⟨c, t', h1, h2, h3⟩ := bt_first 2 z hz
    rw [h1] at hg
    rcases hg with hg | ⟨s', hg⟩ | ⟨s', hg⟩
    · cases hg
    · cases hg
    · simp at hg; exact h3 hg.1) (items2 x) (items2 y) (fun u hu b hb r s hr hs he => H u hu b hb r s hr hs he) (items2_ok hx) (items2_ok hy) (items2_ne hx) (items2_ne hy) r s hr hs h
  exact ⟨items_er 5 (.inl rfl) x y hx hy this.1, this.2⟩
theorem U0_of (x : Ex) (hx : x.okA = true) (H : ∀ u ∈ items1 x, ∀ b : Ex, b.okA = true → U1 u b) (y : Ex) (hy : y.okA = true) : U0 x y := fun r s hr hs h => by
  rw [pr_items x, pr_items y] at h
  have := list_split (Ex.bt 1) [32, 47, 32] fol1 fol0 (fun t => .inr (.inr ⟨32 :: t, rfl⟩)) (fun r hr => fol0_1 hr) (fun z hz t hg => by
    rcases hg with hg | ⟨s', hg⟩
    · cases hg
    · cases hg) (items1 x) (items1 y) (fun u hu b hb r s hr hs he => H u hu b hb r s hr hs he) (items1_ok hx) (items1_ok hy) (items1_ne hx) (items1_ne hy) r s hr hs h
  exact ⟨items_er 6 (.inr rfl) x y hx hy this.1, this.2⟩
end Go.Proofs.YtbeohmcmphebhaaGreatDoor
