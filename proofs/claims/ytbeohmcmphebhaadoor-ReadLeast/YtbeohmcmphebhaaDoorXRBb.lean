import Derived.Test.YtbeohmcmphebhaaDoorXWholeA
import Derived.Test.YtbeohmcmphebhaaDoorXParZ
namespace Go.Proofs.YtbeohmcmphebhaaDoor
open Go.RowKit
set_option linter.unusedVariables false
/-- What may stand behind, where a prefix, a sequence, an alternative ends. -/
def c2 (r : List UInt8) : Prop := ok3 r ∧ nok r ∧ kindB (tok r).k = 0
def c1 (r : List UInt8) : Prop := c2 r ∧ begins (tok r).k = false
def c0 (r : List UInt8) : Prop := c1 r ∧ (tok r).k ≠ 47
def P3 (a : Ex) : Prop := ∀ n r, ok3 r → nok r → (a.bt 3 ++ r).length ≤ n → pp (preP n) (tok (a.bt 3 ++ r)) = postL (tok r).s.length a.er (tok r)
def P2 (a : Ex) : Prop := ∀ n r, c2 r → (a.bt 2 ++ r).length < n → preP n (tok (a.bt 2 ++ r)) = .ok (a.er, tok r)
def P1 (a : Ex) : Prop := ∀ n r, c1 r → (a.bt 1 ++ r).length < n → seqP (preP n) (tok (a.bt 1 ++ r)) = .ok (a.er, tok r)
def P0 (a : Ex) : Prop := ∀ n r, c0 r → (a.pr ++ r).length < n → altP (preP n) (tok (a.pr ++ r)) = .ok (a.er, tok r)
theorem seqP_begins {n : Nat} {t : Tk} {x : Ex × Tk} (h : seqP (preP n) t = .ok x) : begins t.k = true := by
  unfold seqP at h
  cases hp : preP n t with
  | error s => rw [hp, thn_error] at h; cases h
  | ok y => exact preP_begins hp
theorem altP_begins {n : Nat} {t : Tk} {x : Ex × Tk} (h : altP (preP n) t = .ok x) : begins t.k = true := by
  unfold altP at h
  cases hp : seqP (preP n) t with
  | error s => rw [hp, thn_error] at h; cases h
  | ok y => exact seqP_begins hp
theorem begins_ok3 {l : List UInt8} (h : begins (tok l).k = true) : ok3 l := by
  unfold ok3; intro e; rw [e] at h; revert h; decide
theorem begins_kindB {k : UInt8} (h : begins k = true) : kindB k = 0 := by
  rcases begins_cases h with rfl | rfl | rfl | rfl <;> rfl
theorem nok32 (l : List UInt8) : nok (32 :: l) := fun c s h => by cases h; decide
/-- The rest of a sequence. -/
def tl2 (l : List Ex) : List UInt8 := Lib.joinTail [32] (l.map (Ex.bt 2))
theorem tl2_cons (x : Ex) (l : List Ex) (r : List UInt8) : tl2 (x :: l) ++ r = 32 :: (x.bt 2 ++ (tl2 l ++ r)) := by simp [tl2, Lib.joinTail]
theorem tl2_c2 (n : Nat) : ∀ (l : List Ex) (r : List UInt8), (∀ x ∈ l, P2 x) → c1 r → (tl2 l ++ r).length < n → c2 (tl2 l ++ r) := by
  intro l
  induction l with
  | nil => intro r _ hr _; exact hr.1
  | cons x l ih =>
    intro r hx hr hn
    rw [tl2_cons] at hn ⊢
    simp at hn
    have h2 := ih r (fun y hy => hx y (List.mem_cons_of_mem _ hy)) hr (by simp; omega)
    have h3 := hx x List.mem_cons_self n (tl2 l ++ r) h2 (by simp; omega)
    have hb := preP_begins h3
    unfold c2 ok3
    rw [tok_blank]
    exact ⟨begins_ok3 hb, nok32 _, begins_kindB hb⟩
theorem seqL_items (n : Nat) : ∀ (l : List Ex) (m : Nat) (acc : List Ex) (r : List UInt8), (∀ x ∈ l, P2 x) → c1 r → (tl2 l ++ r).length < n → (tok (tl2 l ++ r)).s.length ≤ m → seqL (preP n) m acc (tok (tl2 l ++ r)) = .ok (gath 5 (acc ++ l.map Ex.er), tok r) := by
  intro l
  induction l with
  | nil =>
    intro m acc r _ hr _ _
    have e : tl2 [] ++ r = r := rfl
    rw [e]
    simp only [List.map_nil, List.append_nil]
    cases m with
    | zero => rfl
    | succ m => rw [seqL, if_neg (by rw [hr.2]; decide)]
  | cons x l ih =>
    intro m acc r hx hr hn hm
    have hc2 := tl2_c2 n l r (fun y hy => hx y (List.mem_cons_of_mem _ hy)) hr (by rw [tl2_cons] at hn; simp at hn ⊢; omega)
    rw [tl2_cons, tok_blank] at hm ⊢
    rw [tl2_cons] at hn
    simp at hn
    have h3 := hx x List.mem_cons_self n (tl2 l ++ r) hc2 (by simp; omega)
    have hb := preP_begins h3
    have hof := tok_of (x.bt 2 ++ (tl2 l ++ r)) _ (List.suffix_refl _) (begins_ok3 hb)
    have hfin := preP_fine (T := x.bt 2 ++ (tl2 l ++ r)) n _ hof (by have := tok_len (x.bt 2 ++ (tl2 l ++ r)); simp at this; omega)
    rw [h3] at hfin
    have hlt := hfin.2.1
    simp only at hlt
    cases m with
    | zero => omega
    | succ m =>
      rw [seqL, if_pos hb, h3, thn_ok]
      simp only
      rw [ih m (acc ++ [x.er]) r (fun y hy => hx y (List.mem_cons_of_mem _ hy)) hr (by simp; omega) (by omega)]
      simp
theorem P1_of (a : Ex) (ha : a.okA = true) (H : ∀ u ∈ items2 a, P2 u) : P1 a := by
  intro n r hr hn
  rw [bt1_items a] at hn ⊢
  have hne := items2_ne ha
  cases hl : items2 a with
  | nil => exact absurd hl hne
  | cons x l =>
    rw [hl] at H hn
    rw [List.map_cons, Lib.join_cons, List.append_assoc] at hn ⊢
    rw [show Lib.joinTail [32] (l.map (Ex.bt 2)) = tl2 l from rfl] at hn ⊢
    simp at hn
    have hc := tl2_c2 n l r (fun y hy => H y (List.mem_cons_of_mem _ hy)) hr (by simp; omega)
    have h3 := H x List.mem_cons_self n (tl2 l ++ r) hc (by simp; omega)
    unfold seqP
    rw [h3, thn_ok]
    simp only
    rw [seqL_items n l _ [x.er] r (fun y hy => H y (List.mem_cons_of_mem _ hy)) hr (by simp; omega) (Nat.le_refl _)]
    congr 2
    have hg : [x.er] ++ l.map Ex.er = (items2 a).map Ex.er := by rw [hl]; rfl
    rw [hg]
    unfold items2
    by_cases h5 : a.k = 5
    · rw [if_pos h5]
      have h2 := kids_two ha (.inl h5)
      unfold gath
      rw [if_neg (by rw [List.length_map]; omega), nd_er a ha (by omega), h5]
    · rw [if_neg h5]; rfl
/-- The rest of alternatives. -/
def tl1 (l : List Ex) : List UInt8 := Lib.joinTail [32, 47, 32] (l.map (Ex.bt 1))
theorem tl1_cons (x : Ex) (l : List Ex) (r : List UInt8) : tl1 (x :: l) ++ r = 32 :: 47 :: 32 :: (x.bt 1 ++ (tl1 l ++ r)) := by simp [tl1, Lib.joinTail]
theorem tl1_c1 : ∀ (l : List Ex) (r : List UInt8), c0 r → c1 (tl1 l ++ r) := by
  intro l r hr
  cases l with
  | nil => exact hr.1
  | cons x l =>
    rw [tl1_cons]
    unfold c1 c2 ok3
    rw [tok_blank, tok_sign 47 _ rfl]
    exact ⟨⟨show (47 : UInt8) ≠ 4 from by decide, nok32 _, rfl⟩, rfl⟩
theorem altL_items (n : Nat) : ∀ (l : List Ex) (m : Nat) (acc : List Ex) (r : List UInt8), (∀ x ∈ l, P1 x) → c0 r → (tl1 l ++ r).length < n → (tok (tl1 l ++ r)).s.length ≤ m → altL (preP n) m acc (tok (tl1 l ++ r)) = .ok (gath 6 (acc ++ l.map Ex.er), tok r) := by
  intro l
  induction l with
  | nil =>
    intro m acc r _ hr _ _
    have e : tl1 [] ++ r = r := rfl
    rw [e]
    simp only [List.map_nil, List.append_nil]
    cases m with
    | zero => rfl
    | succ m => rw [altL, if_neg hr.2]
  | cons x l ih =>
    intro m acc r hx hr hn hm
    have hc := tl1_c1 l r hr
    rw [tl1_cons, tok_blank, tok_sign 47 _ rfl] at hm ⊢
    rw [tl1_cons] at hn
    simp at hn hm
    have h3 := hx x List.mem_cons_self n (tl1 l ++ r) hc (by simp; omega)
    have hb := seqP_begins h3
    have h4 : ok3 (32 :: (x.bt 1 ++ (tl1 l ++ r))) := by unfold ok3; rw [tok_blank]; exact begins_ok3 hb
    cases m with
    | zero => omega
    | succ m =>
      rw [altL, if_pos rfl, take_tk h4, thn_ok, tok_blank, h3, thn_ok]
      simp only
      have hl := tok_len (tl1 l ++ r)
      simp at hl
      rw [ih m (acc ++ [x.er]) r (fun y hy => hx y (List.mem_cons_of_mem _ hy)) hr (by simp; omega) (by omega)]
      simp
theorem P0_of (a : Ex) (ha : a.okA = true) (H : ∀ u ∈ items1 a, P1 u) : P0 a := by
  intro n r hr hn
  rw [pr_items a] at hn ⊢
  have hne := items1_ne ha
  cases hl : items1 a with
  | nil => exact absurd hl hne
  | cons x l =>
    rw [hl] at H hn
    rw [List.map_cons, Lib.join_cons, List.append_assoc] at hn ⊢
    rw [show Lib.joinTail [32, 47, 32] (l.map (Ex.bt 1)) = tl1 l from rfl] at hn ⊢
    simp at hn
    have hc := tl1_c1 l r hr
    have h3 := H x List.mem_cons_self n (tl1 l ++ r) hc (by simp; omega)
    unfold altP
    rw [h3, thn_ok]
    simp only
    rw [altL_items n l _ [x.er] r (fun y hy => H y (List.mem_cons_of_mem _ hy)) hr (by simp; omega) (Nat.le_refl _)]
    congr 2
    have hg : [x.er] ++ l.map Ex.er = (items1 a).map Ex.er := by rw [hl]; rfl
    rw [hg]
    unfold items1
    by_cases h6 : a.k = 6
    · rw [if_pos h6]
      have h2 := kids_two ha (.inr h6)
      unfold gath
      rw [if_neg (by rw [List.length_map]; omega), nd_er a ha (by omega), h6]
    · rw [if_neg h6]; rfl
theorem c0_41 (r : List UInt8) : c0 (41 :: r) := by
  unfold c0 c1 c2 ok3
  rw [tok_sign 41 _ rfl]
  exact ⟨⟨⟨show (41 : UInt8) ≠ 4 from by decide, fun c s h => by cases h; decide, rfl⟩, rfl⟩, show (41 : UInt8) ≠ 47 from by decide⟩
theorem sgn_kind (k : Int) (h : 7 ≤ k ∧ k ≤ 9) : kindB (sgn k) = k ∧ isSg (sgn k) = true := by
  have : k = 7 ∨ k = 8 ∨ k = 9 := by omega
  rcases this with rfl | rfl | rfl <;> decide
set_option maxHeartbeats 1000000 in
theorem back_all : ∀ (N : Nat) (a : Ex), a.size ≤ N → a.okA = true → P2 a ∧ P3 a := by
  intro N
  induction N with
  | zero => intro a h; rw [size_eq] at h; omega
  | succ N ih =>
    intro a haN ha
    have hkid : ∀ x ∈ a.kids, P2 x ∧ P3 x := fun x hx => ih x (by have := size_kid hx; omega) (okA_kid ha hx)
    have hpre : a.k = 10 ∨ a.k = 11 → P2 a := by
      intro hk n r hr hn
      obtain ⟨x, hx, hxo, hxs⟩ := star_kid ha (by omega)
      have hx2 := (ih x (by omega) hxo).1
      have he := nd_er a ha (by omega)
      rw [hx] at he
      cases n with
      | zero => omega
      | succ n =>
        rcases hk with hk | hk
        · have hb := pre_bt 38 10 (.inl ⟨rfl, rfl⟩) a x hk hx
          rw [hb, List.cons_append] at hn ⊢
          have h3 := hx2 n r hr (by simpa using hn)
          rw [tok_sign 38 _ rfl, preP, if_pos rfl, take_tk (begins_ok3 (preP_begins h3)), thn_ok, h3, thn_ok, he, hk]
          rfl
        · have hb := pre_bt 33 11 (.inr ⟨rfl, rfl⟩) a x hk hx
          rw [hb, List.cons_append] at hn ⊢
          have h3 := hx2 n r hr (by simpa using hn)
          rw [tok_sign 33 _ rfl, preP, if_neg (show ¬ (33 : UInt8) = 38 from by decide), if_pos rfl, take_tk (begins_ok3 (preP_begins h3)), thn_ok, h3, thn_ok, he, hk]
          rfl
    have h0 : a.k = 5 ∨ a.k = 6 ∨ a.k = 10 ∨ a.k = 11 → P0 a := by
      intro hk
      refine P0_of a ha fun u hu => ?_
      by_cases h6 : a.k = 6
      · unfold items1 at hu
        rw [if_pos h6] at hu
        have hus := size_kid hu
        refine P1_of u (okA_kid ha hu) fun v hv => (ih v ?_ (items2_ok (okA_kid ha hu) v hv)).1
        exact items2_size N (by omega) v hv
      · unfold items1 at hu
        rw [if_neg h6] at hu
        simp at hu
        subst hu
        refine P1_of u ha fun v hv => ?_
        by_cases h5 : u.k = 5
        · unfold items2 at hv
          rw [if_pos h5] at hv
          exact (hkid v hv).1
        · unfold items2 at hv
          rw [if_neg h5] at hv
          simp at hv
          subst hv
          exact hpre (by omega)
    have h3 : P3 a := by
      intro n r hr hn hlen
      by_cases h7 : 7 ≤ a.k ∧ a.k ≤ 9
      · obtain ⟨x, hx, hxo, hxs⟩ := star_kid ha h7.1
        obtain ⟨hs1, hs2⟩ := sgn_kind a.k h7
        have hb := star_bt a x h7 hx
        rw [hb, List.append_assoc, List.singleton_append] at hlen ⊢
        rw [(ih x (by omega) hxo).2 n (sgn a.k :: r) (ok3_sign _ _ hs2) (fun c s h => by cases h; exact post_not_ok _ (sgn_post _)) hlen]
        rw [tok_sign _ r hs2]
        show postL (r.length + 1) x.er _ = _
        rw [postL]
        simp only
        rw [hs1, if_neg (by omega), take_tk hr, thn_ok, postL_any _ (tok r).s.length _ r (tok_len r) (Nat.le_refl _) hr]
        have he := nd_er a ha (by omega)
        rw [hx] at he
        rw [he]; rfl
      · unfold pp
        rw [prim_base (preP n) a ha h7 r hr hn, thn_ok]
        intro hk
        have hbk := bt_brk 3 a (by have := tight_cases a.k; omega)
        rw [hbk] at hlen
        have := h0 hk n (41 :: r) (c0_41 r) (by simp at hlen ⊢; omega)
        exact ⟨this, altP_begins this⟩
    refine ⟨?_, h3⟩
    by_cases hk : a.k = 10 ∨ a.k = 11
    · exact hpre hk
    · intro n r hr hn
      rw [bt23 a (by omega)] at hn ⊢
      cases n with
      | zero => omega
      | succ n =>
        have h4 := h3 n r hr.1 hr.2.1 (by omega)
        rw [postL_no hr.2.2] at h4
        have hnb : (tok (a.bt 3 ++ r)).k = 1 ∨ (tok (a.bt 3 ++ r)).k = 40 := by
          unfold pp primP at h4
          by_cases h1 : (tok (a.bt 3 ++ r)).k = 1
          · exact .inl h1
          · by_cases h40 : (tok (a.bt 3 ++ r)).k = 40
            · exact .inr h40
            · rw [if_neg h1, if_neg h40, thn_error] at h4; cases h4
        rw [preP, if_neg (by rcases hnb with h | h <;> rw [h] <;> decide), if_neg (by rcases hnb with h | h <;> rw [h] <;> decide)]
        exact h4
/-- What is printed is read as it was. -/
theorem parse_pr (a : Ex) (ha : a.okA = true) : parse a.pr = .ok a.er := by
  have h0 : P0 a := P0_of a ha fun u hu => P1_of u (items1_ok ha u hu) fun v hv => (back_all v.size v (Nat.le_refl _) (items2_ok (items1_ok ha u hu) v hv)).1
  have hc : c0 [] := ⟨⟨⟨show (0 : UInt8) ≠ 4 from by decide, (show nok [] from fun c s h => by cases h), rfl⟩, rfl⟩, show (0 : UInt8) ≠ 47 from by decide⟩
  have := h0 (a.pr.length + 1) [] hc (by simp)
  rw [List.append_nil] at this
  unfold parse
  rw [if_neg (begins_ok3 (altP_begins this)), this, thn_ok]
  rfl
theorem par_pr (a : Ex) (h : check a = 0) (hl : a.pr.length ≤ 2000) : par a.pr = (a.er, 0, 0) := by
  unfold par
  rw [if_neg (by omega), parse_pr a (okA_check a h)]
  simp only
  rw [check_er, if_pos h]
end Go.Proofs.YtbeohmcmphebhaaDoor
