import Derived.Test.YtbeohmcmphebhaaDoorXParts
import Derived.Test.YtbeohmcmphebhaaDoorXQClassText
import Derived.Lib.Join
import Derived.Test.YtbeohmcmphebhaaDoorXUOps
namespace Go.Proofs.YtbeohmcmphebhaaDoor
open Ex.size (sizeL)
open Ex.nodes (nodesL)
/-- Whether a set has all bytes. -/
def isFull (S : BitVec 256) : Bool := noS (~~~S)
/-- How tight a kind holds together. -/
def tight (k : Int) : Int := if k = 6 then 0 else if k = 5 then 1 else if k = 10 ∨ k = 11 then 2 else 3
/-- The sign behind a kind. -/
def sgn (k : Int) : UInt8 := if k = 7 then 42 else if k = 8 then 43 else 63
/-- A text within brackets, where it must be. -/
def brk (least k : Int) (t : List UInt8) : List UInt8 := if least ≤ tight k then t else [40] ++ t ++ [41]
/-- An expression as text. -/
def Ex.pr : Ex → List UInt8
  | .mk k S t _ _ kids =>
    if k = 1 then [40, 41]
    else if k = 2 then (if isFull S then [46] else cls S)
    else if k = 3 then lit t.data.toList
    else if k = 4 then t.data.toList
    else if k = 6 then Lib.join (prKs 1 kids) [32, 47, 32]
    else if k = 5 then Lib.join (prKs 2 kids) [32]
    else if k = 10 then [38] ++ (prKs 2 kids).headD []
    else if k = 11 then [33] ++ (prKs 2 kids).headD []
    else (prKs 3 kids).headD [] ++ [sgn k]
  where
  prKs (least : Int) : List Ex → List (List UInt8)
    | [] => []
    | x :: r => brk least x.k (Ex.pr x) :: prKs least r
open Ex.pr (prKs)
theorem pr_eq (e : Ex) : e.pr = (if e.k = 1 then [40, 41]
    else if e.k = 2 then (if isFull e.S then [46] else cls e.S)
    else if e.k = 3 then lit e.t.data.toList
    else if e.k = 4 then e.t.data.toList
    else if e.k = 6 then Lib.join (prKs 1 e.kids) [32, 47, 32]
    else if e.k = 5 then Lib.join (prKs 2 e.kids) [32]
    else if e.k = 10 then [38] ++ (prKs 2 e.kids).headD []
    else if e.k = 11 then [33] ++ (prKs 2 e.kids).headD []
    else (prKs 3 e.kids).headD [] ++ [sgn e.k]) := by
  cases e with
  | mk k S t a c kids => rw [Ex.pr]; rfl
theorem prKs_map (least : Int) : ∀ (l : List Ex), prKs least l = l.map fun x => brk least x.k x.pr
  | [] => rfl
  | x :: r => by rw [prKs, List.map_cons, prKs_map least r]
/-- All nodes are in their form. -/
def Ex.okA : Ex → Bool
  | .mk k S t a c kids => formOk (.mk k S t a c kids) && okL kids
  where
  okL : List Ex → Bool
    | [] => true
    | x :: r => Ex.okA x && okL r
open Ex.okA (okL)
theorem okA_eq (e : Ex) : e.okA = (formOk e && okL e.kids) := by
  cases e with
  | mk k S t a c kids => rw [Ex.okA]; rfl
theorem okL_mem : ∀ (l : List Ex), okL l = true → ∀ x ∈ l, x.okA = true
  | y :: r, h, x, hx => by
    rw [okL, Bool.and_eq_true] at h
    rcases List.mem_cons.1 hx with rfl | hx
    · exact h.1
    · exact okL_mem r h.2 x hx
theorem okA_kid {e x : Ex} (h : e.okA = true) (hx : x ∈ e.kids) : x.okA = true := by
  rw [okA_eq, Bool.and_eq_true] at h
  exact okL_mem _ h.2 x hx
theorem okA_of : ∀ (e : Ex) (d : Int), (∀ x ∈ e.nodes d, formOk x.2 = true) → e.okA = true
  | .mk k S t a c kids, d, h => by
    rw [Ex.nodes] at h
    rw [Ex.okA, Bool.and_eq_true]
    exact ⟨h _ List.mem_cons_self, okL_of kids _ fun x hx => h x (List.mem_cons_of_mem _ hx)⟩
  where
  okL_of : ∀ (l : List Ex) (d : Int), (∀ x ∈ nodesL d l, formOk x.2 = true) → okL l = true
    | [], _, _ => rfl
    | e :: r, d, h => by
      rw [nodesL] at h
      rw [okL, Bool.and_eq_true]
      exact ⟨okA_of e d fun x hx => h x (List.mem_append_left _ hx), okL_of r d fun x hx => h x (List.mem_append_right _ hx)⟩
theorem okL_of : ∀ (l : List Ex) (d : Int), (∀ x ∈ nodesL d l, formOk x.2 = true) → okL l = true := okA_of.okL_of
theorem okA_check (e : Ex) (h : check e = 0) : e.okA = true := okA_of e 1 fun x hx => (((check_zero e).1 h).2 x hx).2
/-- What a form says of the kids, by kind. -/
theorem form_kinds (e : Ex) (h : formOk e = true) : (e.k = 1 ∧ e.kids.length = 0 ∨ e.k = 2 ∧ e.kids.length = 0 ∨ e.k = 3 ∧ e.kids.length = 0 ∧ e.t.size ≤ 12 ∨ e.k = 4 ∧ e.kids.length = 0 ∧ e.t.size ≤ 8) ∨
    ((e.k = 5 ∨ e.k = 6) ∧ 2 ≤ e.kids.length ∧ e.kids.length ≤ 8) ∨ (7 ≤ e.k ∧ e.k ≤ 11 ∧ e.kids.length = 1) := by
  unfold formOk at h
  rw [Bool.and_eq_true, Bool.and_eq_true] at h
  obtain ⟨⟨ht, _⟩, hk⟩ := h
  unfold kidsOk at hk
  unfold textOk at ht
  by_cases h14 : e.k = 1 ∨ e.k = 2 ∨ e.k = 3 ∨ e.k = 4
  · rw [if_pos h14] at hk
    have hk := of_decide_eq_true hk
    left
    rcases h14 with h1 | h1 | h1 | h1
    · exact .inl ⟨h1, hk⟩
    · exact .inr (.inl ⟨h1, hk⟩)
    · rw [if_pos h1, Bool.and_eq_true] at ht
      exact .inr (.inr (.inl ⟨h1, hk, of_decide_eq_true ht.2⟩))
    · rw [if_neg (by omega), if_pos h1] at ht
      unfold isName at ht
      rw [Bool.and_eq_true] at ht
      exact .inr (.inr (.inr ⟨h1, hk, of_decide_eq_true ht.2⟩))
  · rw [if_neg h14] at hk
    by_cases h56 : e.k = 5 ∨ e.k = 6
    · rw [if_pos h56, Bool.and_eq_true] at hk
      exact .inr (.inl ⟨h56, of_decide_eq_true hk.1, of_decide_eq_true hk.2⟩)
    · rw [if_neg h56] at hk
      by_cases h7 : 7 ≤ e.k ∧ e.k ≤ 11
      · rw [if_pos h7] at hk
        exact .inr (.inr ⟨h7.1, h7.2, of_decide_eq_true hk⟩)
      · rw [if_neg h7] at hk; cases hk
theorem brk_len (least k : Int) (t : List UInt8) : (brk least k t).length ≤ t.length + 2 := by
  unfold brk; split <;> simp
theorem join_len (sep : List UInt8) (hs : sep.length ≤ 3) : ∀ (l : List (List UInt8)), (Lib.join l sep).length ≤ (l.map fun x => x.length + 3).sum
  | [] => by simp [Lib.join_nil]
  | x :: r => by
    rw [Lib.join_cons, List.map_cons, List.sum_cons, List.length_append]
    have h1 : ∀ (r : List (List UInt8)), (Lib.joinTail sep r).length ≤ (r.map fun x => x.length + 3).sum := by
      intro r
      induction r with
      | nil => simp [Lib.joinTail]
      | cons y r ih =>
        simp only [Lib.joinTail, List.map_cons, List.flatten_cons, List.length_append, List.sum_cons] at ih ⊢
        omega
    have := h1 r
    omega
theorem pr_len : ∀ (e : Ex), e.okA = true → e.pr.length + 5 ≤ 3000 * e.size
  | .mk k S t a c kids, h => by
    have hf : formOk (.mk k S t a c kids) = true := by rw [okA_eq, Bool.and_eq_true] at h; exact h.1
    have hk : okL kids = true := by rw [okA_eq, Bool.and_eq_true] at h; exact h.2
    have h1 := prKs_len 1 kids hk
    have h2 := prKs_len 2 kids hk
    have h3 := prKs_len 3 kids hk
    have hh : ∀ (least : Int), ((prKs least kids).headD []).length ≤ ((prKs least kids).map fun x => x.length + 3).sum := fun least => by
      cases prKs least kids with
      | nil => simp
      | cons x r => simp; omega
    have hh2 := hh 2
    have hh3 := hh 3
    have hj1 := join_len [32, 47, 32] (by simp) (prKs 1 kids)
    have hj2 := join_len [32] (by simp) (prKs 2 kids)
    have hkd := form_kinds _ hf
    have hl := flat_len 32 [39, 92] t.data.toList
    have hts : t.data.toList.length = t.size := rfl
    have hcl := cls_len S
    rw [Ex.size, Ex.pr]
    simp only [Ex.k, Ex.t, Ex.kids] at hkd
    by_cases e1 : k = 1
    · rw [if_pos e1]; simp; omega
    rw [if_neg e1]
    by_cases e2 : k = 2
    · rw [if_pos e2]; split <;> simp <;> omega
    rw [if_neg e2]
    by_cases e3 : k = 3
    · rw [if_pos e3]; unfold lit; simp only [List.length_cons, List.length_append, List.length_nil]; omega
    rw [if_neg e3]
    by_cases e4 : k = 4
    · rw [if_pos e4]; omega
    rw [if_neg e4]
    split
    · omega
    split
    · omega
    split
    · simp only [List.length_append, List.length_cons, List.length_nil]; omega
    split
    · simp only [List.length_append, List.length_cons, List.length_nil]; omega
    · simp only [List.length_append, List.length_cons, List.length_nil]; omega
  where
  prKs_len (least : Int) : ∀ (l : List Ex), okL l = true → ((prKs least l).map fun x => x.length + 3).sum ≤ 3000 * sizeL l
    | [], _ => by simp [prKs]
    | x :: r, h => by
      rw [okL, Bool.and_eq_true] at h
      have h1 := pr_len x h.1
      have h2 := prKs_len least r h.2
      have h3 := brk_len least x.k x.pr
      rw [prKs, List.map_cons, List.sum_cons, sizeL]
      omega
theorem prKs_len (least : Int) : ∀ (l : List Ex), okL l = true → ((prKs least l).map fun x => x.length + 3).sum ≤ 3000 * sizeL l := pr_len.prKs_len least
theorem prKs_take (least : Int) (l : List Ex) (i : Nat) (x : Ex) (h : l[i]? = some x) : prKs least (l.take (i + 1)) = prKs least (l.take i) ++ [brk least x.k x.pr] := by
  rw [prKs_map, prKs_map, List.take_add_one, h, Option.toList_some, List.map_append]
  rfl
theorem join_snoc (l : List (List UInt8)) (x sep : List UInt8) (h : l ≠ []) : Lib.join (l ++ [x]) sep = Lib.join l sep ++ sep ++ x := by
  cases l with
  | nil => exact absurd rfl h
  | cons y r => rw [List.cons_append, Lib.join_cons, Lib.join_cons]; simp [Lib.joinTail]
theorem prKs_length (least : Int) (l : List Ex) : (prKs least l).length = l.length := by rw [prKs_map]; simp
end Go.Proofs.YtbeohmcmphebhaaDoor
namespace Go.Proofs.YtbeohmcmphebhaaDoor
open Ex.pr (prKs)
/-- Whether two expressions are the same, wherever they lie. -/
def Ex.same : Ex → Ex → Bool
  | .mk k S t _ _ kids, .mk k' S' t' _ _ kids' => decide (k = k') && decide (S = S') && decide (t = t') && sameL kids kids'
  where
  sameL : List Ex → List Ex → Bool
    | [], [] => true
    | x :: r, y :: s => Ex.same x y && sameL r s
    | _, _ => false
open Ex.same (sameL)
theorem same_iff (a b : Ex) : a.same b = true ↔ a.k = b.k ∧ a.S = b.S ∧ a.t = b.t ∧ sameL a.kids b.kids = true := by
  cases a with
  | mk k S t x c kids =>
    cases b with
    | mk k' S' t' x' c' kids' =>
      rw [Ex.same]
      simp only [Bool.and_eq_true, decide_eq_true_eq, Ex.k, Ex.S, Ex.t, Ex.kids]
      constructor
      · rintro ⟨⟨⟨h1, h2⟩, h3⟩, h4⟩; exact ⟨h1, h2, h3, h4⟩
      · rintro ⟨h1, h2, h3, h4⟩; exact ⟨⟨⟨h1, h2⟩, h3⟩, h4⟩
theorem sameL_cons (x y : Ex) (r s : List Ex) : sameL (x :: r) (y :: s) = true ↔ x.same y = true ∧ sameL r s = true := by
  rw [sameL, Bool.and_eq_true]
theorem same_pr : ∀ (a b : Ex), a.same b = true → a.pr = b.pr ∧ a.k = b.k
  | .mk k S t _ _ kids, .mk k' S' t' _ _ kids', h => by
    rw [same_iff] at h
    simp only [Ex.k, Ex.S, Ex.t, Ex.kids] at h
    obtain ⟨rfl, rfl, rfl, h4⟩ := h
    have hL := fun least => sameL_pr least kids kids' h4
    refine ⟨?_, rfl⟩
    rw [Ex.pr, Ex.pr, hL 1, hL 2, hL 3]
  where
  sameL_pr (least : Int) : ∀ (l m : List Ex), sameL l m = true → prKs least l = prKs least m
    | [], [], _ => rfl
    | [], _ :: _, h => by simp [sameL] at h
    | _ :: _, [], h => by simp [sameL] at h
    | x :: r, y :: s, h => by
      rw [sameL_cons] at h
      have h1 := same_pr x y h.1
      rw [prKs, prKs, h1.1, h1.2, sameL_pr least r s h.2]
theorem sameL_pr (least : Int) : ∀ (l m : List Ex), sameL l m = true → prKs least l = prKs least m := same_pr.sameL_pr least
/-- An expression's text where brackets are asked for. -/
def Ex.bt (least : Int) (x : Ex) : List UInt8 := brk least x.k x.pr
/-- A sign that may stand behind. -/
def isPost (c : UInt8) : Prop := c = 42 ∨ c = 43 ∨ c = 63
/-- What may follow behind what holds tight: no sign that belongs to it. -/
def fol2 (r : List UInt8) : Prop := ∀ c s, r = c :: s → ¬ isPost c ∧ okc c = false
def fol1 (r : List UInt8) : Prop := r = [] ∨ (∃ s, r = 41 :: s) ∨ (∃ s, r = 32 :: 47 :: s)
def fol0 (r : List UInt8) : Prop := r = [] ∨ ∃ s, r = 41 :: s
theorem fol0_1 {r : List UInt8} (h : fol0 r) : fol1 r := by
  rcases h with h | h
  · exact .inl h
  · exact .inr (.inl h)
theorem not_post41 : ¬ isPost 41 ∧ okc 41 = false := ⟨by unfold isPost; decide, by decide⟩
theorem not_post32 : ¬ isPost 32 ∧ okc 32 = false := ⟨by unfold isPost; decide, by decide⟩
theorem fol1_2 {r : List UInt8} (h : fol1 r) : fol2 r := by
  intro c s hr
  rcases h with h | ⟨s', h⟩ | ⟨s', h⟩
  · rw [h] at hr; cases hr
  · rw [h] at hr; cases hr; exact not_post41
  · rw [h] at hr; cases hr; exact not_post32
theorem fol2_sp (s : List UInt8) : fol2 (32 :: s) := fun c t h => by cases h; exact not_post32
theorem post_not_ok (c : UInt8) (h : isPost c) : okc c = false := by
  rcases h with rfl | rfl | rfl <;> decide
theorem sgn_post (k : Int) : isPost (sgn k) := by
  unfold sgn isPost
  split
  · simp
  split
  · simp
  · simp
/-- Within a row of signs that stand behind, and what follows, the signs are told. -/
theorem post_split : ∀ (p q r s : List UInt8), (∀ c ∈ p, isPost c) → (∀ c ∈ q, isPost c) → fol2 r → fol2 s → p ++ r = q ++ s → p = q ∧ r = s
  | [], [], r, s, _, _, _, _, h => ⟨rfl, h⟩
  | [], c :: q, r, s, _, hq, hr, _, h => absurd (hq c List.mem_cons_self) (hr c _ h).1
  | c :: p, [], r, s, hp, _, _, hs, h => absurd (hp c List.mem_cons_self) (hs c _ h.symm).1
  | c :: p, d :: q, r, s, hp, hq, hr, hs, h => by
    simp only [List.cons_append, List.cons.injEq] at h
    obtain ⟨h1, h2⟩ := post_split p q r s (fun x hx => hp x (List.mem_cons_of_mem _ hx)) (fun x hx => hq x (List.mem_cons_of_mem _ hx)) hr hs h.2
    exact ⟨by rw [h.1, h1], h2⟩
/-- Names are told by what follows. -/
theorem name_split : ∀ (p q r s : List UInt8), (∀ c ∈ p, okc c = true) → (∀ c ∈ q, okc c = true) → (∀ c t, r = c :: t → okc c = false) → (∀ c t, s = c :: t → okc c = false) → p ++ r = q ++ s → p = q ∧ r = s
  | [], [], r, s, _, _, _, _, h => ⟨rfl, h⟩
  | [], c :: q, r, s, _, hq, hr, _, h => by have h1 := hr c _ h; rw [hq c List.mem_cons_self] at h1; cases h1
  | c :: p, [], r, s, hp, _, _, hs, h => by have h1 := hs c _ h.symm; rw [hp c List.mem_cons_self] at h1; cases h1
  | c :: p, d :: q, r, s, hp, hq, hr, hs, h => by
    simp only [List.cons_append, List.cons.injEq] at h
    obtain ⟨h1, h2⟩ := name_split p q r s (fun x hx => hp x (List.mem_cons_of_mem _ hx)) (fun x hx => hq x (List.mem_cons_of_mem _ hx)) hr hs h.2
    exact ⟨by rw [h.1, h1], h2⟩
theorem name_ok (t : ByteArray) (h : isName t.data.toList = true) : (∀ c ∈ t.data.toList, okc c = true) ∧ ∃ c r, t.data.toList = c :: r ∧ isL (c.toNat : Int) = true := by
  unfold isName at h
  simp only [Bool.and_eq_true] at h
  cases hl : t.data.toList with
  | nil => rw [hl] at h; simp at h
  | cons c r =>
    rw [hl] at h
    have h1 := h.1.1
    simp only [part, Bool.and_eq_true, List.all_eq_true] at h1
    refine ⟨fun x hx => ?_, c, r, rfl, h1.1⟩
    rcases List.mem_cons.1 hx with rfl | hx
    · unfold okc; rw [h1.1]; rfl
    · exact h1.2 x hx
end Go.Proofs.YtbeohmcmphebhaaDoor
namespace Go.Proofs.YtbeohmcmphebhaaDoor
open Go.RowKit
set_option linter.unusedVariables false
def yes (_ : Nat) : Bool := true
theorem clo48 (k : Nat) (w : World) : Calls Tryd.prog 60 #[.int .i64 k] w fun e w' => e = .returned (.bool (yes k)) ∧ Below w.heap.size w w' := by
  go_enter Tryd.func60, Tryd.ntmps60
  go_wp2_with fail
  go_ret
  exact ⟨rfl, Below.refl _ _⟩
set_option maxHeartbeats 1000000 in
theorem where_48 (w : World) :
    Calls Tryd.prog 56 #[(.func (.func 60) #[] #[])] w fun e w' => e = .returned (.agg #[.int .u64 (wd (upto yes 256) 0), .int .u64 (wd (upto yes 256) 1), .int .u64 (wd (upto yes 256) 2), .int .u64 (wd (upto yes 256) 3)]) ∧ Below w.heap.size w w' := by
  go_enter Tryd.func56, Tryd.ntmps56
  go_wp2_with fail
  go_loopw [3, 4] (fun _ i wx => ∃ (k : Nat) (S : BitVec 256), i = .int .i64 k ∧ k ≤ 256 ∧ Hid (S = upto yes k) ∧ Below w.heap.size w wx ∧ Lies wx w.heap.size #[.int .u64 (wd S 0), .int .u64 (wd S 1), .int .u64 (wd S 2), .int .u64 (wd S 3)]) (fun _ i _ => 256 - (intOf i).toNat)
  case atStart => exact ⟨0, 0#256, rfl, by omega, rfl, (Below.refl _ _).alloc (Nat.le_refl _) _, by simp only [wd_zero]; exact Lies.new _ _⟩
  case round =>
    obtain ⟨k, S, rfl, hk, HS, hB, hL⟩ := hrel
    by_cases hh : (k : Int) < 256
    · go_wp2_with fail
      refine (clo48 k _).mono ?_
      rintro e w1 ⟨rfl, hb1⟩
      have hB1 := hB.trans (hb1.mono (by have := hL.lt; omega))
      have hL1 := hL.below hb1 hL.lt
      have hlt := hL1.lt
      clear hb1 hL hB
      have hq := at_word S k (by omega)
      have hc := hL1.cell (k / 64)
      have hf := hL1.frozen (k / 64)
      have hpk : yes k = true := rfl
      go_wp2_with fail
      go_region
      go_wp2_with fail
      refine ⟨⟨k + 1, S ||| BitVec.twoPow 256 k, by go_num, by omega, by rw [HS.out]; exact upto_step_yes yes k rfl, (hB1.setCell (by simp) _).drew, ?_⟩, by simp [intOf]; omega⟩
      have hs := (hL1.set (k / 64) (.int .u64 (IntKind.u64.wrap (wd S (k / 64) + IntKind.u64.wrap (2 ^ (k % 64)))))).drew
      rw [List.setIfInBounds_toArray, set_word S k (by omega) _ (wd_add_two S k (by omega) (by rw [HS.out, getLsbD_upto _ _ _ (by omega)]; simp))] at hs
      exact hs
    · have hc := hL.cell
      have hf := hL.frozen
      have hlt := hL.lt
      have hk2 : k = 256 := by omega
      go_wp2_with fail
      exact bodyPost_ret (v := .agg #[.int .u64 (wd S 0), .int .u64 (wd S 1), .int .u64 (wd S 2), .int .u64 (wd S 3)]) (by simp [results, Tryd.results56, go_sem, hc]) rfl ⟨by rw [HS.out, hk2], (((hB.setCell (by simp) _).setCell (by simp) _).setCell (by simp) _).setCell (by simp) _⟩
theorem upto_full : upto yes 256 = BitVec.allOnes 256 := by
  apply BitVec.eq_of_getLsbD_eq
  intro i hi
  rw [getLsbD_upto _ _ _ (by omega), BitVec.getLsbD_allOnes]
  simp [yes]
set_option maxHeartbeats 1000000 in
theorem full_any (w : World) :
    Calls Tryd.prog 31 #[] w fun e w' => e = .returned (.agg #[.int .u64 (wd (BitVec.allOnes 256) 0), .int .u64 (wd (BitVec.allOnes 256) 1), .int .u64 (wd (BitVec.allOnes 256) 2), .int .u64 (wd (BitVec.allOnes 256) 3)]) ∧ Below w.heap.size w w' := by
  have hw := where_48 (w.alloc (.cells #[.int .u64 0, .int .u64 0, .int .u64 0, .int .u64 0] 24))
  rw [upto_full] at hw
  generalize BitVec.allOnes 256 = F at *
  go_enter Tryd.func31, Tryd.ntmps31
  go_wp2_with (go_at_call 56; refine hw.mono ?_; rintro r w1 ⟨rfl, hb1⟩; have hL := (Lies.new w #[.int .u64 0, .int .u64 0, .int .u64 0, .int .u64 0]).below hb1 (by simp); have hB : Below w.heap.size w w1 := ((Below.refl w.heap.size w).alloc (Nat.le_refl _) _).trans (hb1.mono (by simp)); have hc := hL.cell; have hf := hL.frozen; have hlt := hL.lt; clear hb1)
  exact bodyPost_ret (v := .agg #[.int .u64 (wd F 0), .int .u64 (wd F 1), .int .u64 (wd F 2), .int .u64 (wd F 3)]) (by simp [results, Tryd.results31, go_sem, hc]) rfl ⟨rfl, (((hB.setCell (by simp) _).setCell (by simp) _).setCell (by simp) _).setCell (by simp) _⟩
theorem isFull_iff (S : BitVec 256) : isFull S = true ↔ S = BitVec.allOnes 256 := by
  unfold isFull noS
  simp only [Bool.and_eq_true, beq_iff_eq]
  constructor
  · rintro ⟨h0, h1, h2, h3⟩
    have : ~~~S = 0#256 := wd_inj _ _ fun k hk => by
      rw [wd_zero]
      match k, hk with
      | 0, _ => exact h0
      | 1, _ => exact h1
      | 2, _ => exact h2
      | 3, _ => exact h3
    rw [← BitVec.not_not (b := S), this]
    simp
  · rintro rfl
    rw [show ~~~(BitVec.allOnes 256) = 0#256 from by simp]
    exact ⟨wd_zero 0, wd_zero 1, wd_zero 2, wd_zero 3⟩
/-- The reference asks whether a set is all there is. -/
theorem full_test (S : BitVec 256) : ((wd S 0 == wd (BitVec.allOnes 256) 0) && ((wd S 1 == wd (BitVec.allOnes 256) 1) && ((wd S 2 == wd (BitVec.allOnes 256) 2) && (wd S 3 == wd (BitVec.allOnes 256) 3)))) = isFull S := by
  rw [Bool.eq_iff_iff, isFull_iff]
  simp only [Bool.and_eq_true, beq_iff_eq]
  constructor
  · rintro ⟨h0, h1, h2, h3⟩
    exact wd_inj _ _ fun k hk => by
      match k, hk with
      | 0, _ => exact h0
      | 1, _ => exact h1
      | 2, _ => exact h2
      | 3, _ => exact h3
  · rintro rfl
    exact ⟨rfl, rfl, rfl, rfl⟩
end Go.Proofs.YtbeohmcmphebhaaDoor
