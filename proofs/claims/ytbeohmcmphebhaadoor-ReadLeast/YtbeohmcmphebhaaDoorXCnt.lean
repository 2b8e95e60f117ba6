import Derived.Test.YtbeohmcmphebhaaDoorXPs
import Derived.Test.YtbeohmcmphebhaaDoorXFull
namespace Go.Proofs.YtbeohmcmphebhaaDoor
set_option linter.unusedVariables false
/-! How many brackets, and which leaves, a text has that reads as an expression. -/
def nbk (least k : Int) : Nat := if least ≤ tight k then 0 else 1
/-- How tight the kids of a kind must be. -/
def lst (k : Int) : Int := if k = 6 then 1 else if k = 5 ∨ k = 10 ∨ k = 11 then 2 else 3
/-- How many brackets an expression has when it is printed. -/
def Ex.nb : Ex → Nat
  | .mk k _ _ _ _ kids => if k = 1 then 1 else nbL (lst k) kids
  where
  nbL (least : Int) : List Ex → Nat
    | [] => 0
    | x :: r => Ex.nb x + nbk least x.k + nbL least r
open Ex.nb (nbL)
/-- The leaves of an expression, without those that say nothing. -/
def Ex.lv : Ex → List Ex
  | .mk k S t a c kids => if k = 1 then [] else if k = 2 ∨ k = 3 ∨ k = 4 then [.mk k S t a c kids] else lvL kids
  where
  lvL : List Ex → List Ex
    | [] => []
    | x :: r => Ex.lv x ++ lvL r
open Ex.lv (lvL)
theorem nb_nd (k : Int) (l : List Ex) (h : k ≠ 1) : (nd k l).nb = nbL (lst k) l := by unfold nd; rw [Ex.nb, if_neg h]
theorem lv_nd (k : Int) (l : List Ex) (h : 5 ≤ k) : (nd k l).lv = lvL l := by unfold nd; rw [Ex.lv, if_neg (by omega), if_neg (by omega)]
theorem nbL_append (least : Int) : ∀ (a b : List Ex), nbL least (a ++ b) = nbL least a + nbL least b
  | [], b => by rw [List.nil_append, nbL]; omega
  | x :: a, b => by rw [List.cons_append, nbL, nbL, nbL_append least a b]; omega
theorem lvL_append : ∀ (a b : List Ex), lvL (a ++ b) = lvL a ++ lvL b
  | [], b => by rw [List.nil_append, lvL]; rfl
  | x :: a, b => by rw [List.cons_append, lvL, lvL, lvL_append a b, List.append_assoc]
def wtT (t : Tk) : Nat := if t.k = 40 then 1 else if t.k = 1 ∧ t.e.k = 1 then 1 else 0
def lvT (t : Tk) : List Ex := if t.k = 1 ∧ t.e.k ≠ 1 then [t.e] else []
def wt : List Tk → Nat
  | [] => 0
  | t :: r => wtT t + wt r
def lvs : List Tk → List Ex
  | [] => []
  | t :: r => lvT t ++ lvs r
theorem wt_append : ∀ (a b : List Tk), wt (a ++ b) = wt a + wt b
  | [], b => by rw [List.nil_append, wt]; omega
  | x :: a, b => by rw [List.cons_append, wt, wt, wt_append a b]; omega
theorem lvs_append : ∀ (a b : List Tk), lvs (a ++ b) = lvs a ++ lvs b
  | [], b => by rw [List.nil_append, lvs]; rfl
  | x :: a, b => by rw [List.cons_append, lvs, lvs, lvs_append a b, List.append_assoc]
/-- From a token on these stand, and then that one. -/
def Run : Tk → List Tk → Tk → Prop
  | t, [], u => t = u
  | t, a :: l, u => t = a ∧ ∃ v, take a = .ok v ∧ Run v l u
theorem Run.app : ∀ (a : List Tk) {b : List Tk} {t u v : Tk}, Run t a u → Run u b v → Run t (a ++ b) v
  | [], b, t, u, v, h1, h2 => by rw [show t = u from h1]; exact h2
  | x :: a, b, t, u, v, h1, h2 => ⟨h1.1, by obtain ⟨w, hw, h3⟩ := h1.2; exact ⟨w, hw, Run.app a h3 h2⟩⟩
theorem Run.one {t u : Tk} (h : take t = .ok u) : Run t [t] u := ⟨rfl, u, h, rfl⟩
/-- What was read, by tokens. -/
def Has (least : Int) (t : Tk) (x : Ex × Tk) : Prop := ∃ l, Run t l x.2 ∧ lvs l = x.1.lv ∧ x.1.nb + nbk least x.1.k ≤ wt l
def Hass (least : Int) (p : Tk → Rs) : Prop := ∀ t x, t = tokS t.s → p t = .ok x → Has least t x ∧ x.2 = tokS x.2.s
theorem take_tokS {t u : Tk} (h : take t = .ok u) : u = tokS u.s := by
  unfold take at h
  split at h
  · cases h
  · cases h; unfold tok; rw [tokS_s]
theorem nbk_le {a b : Int} (h : a ≤ b) (k : Int) : nbk a k ≤ nbk b k := by
  unfold nbk; split <;> split <;> omega
theorem Has.low {a b : Int} (h : a ≤ b) {t : Tk} {x : Ex × Tk} (hx : Has b t x) : Has a t x := by
  obtain ⟨l, h1, h2, h3⟩ := hx
  exact ⟨l, h1, h2, by have := nbk_le h x.1.k; omega⟩
theorem thn_some {α β : Type} {x : Except (List UInt8) α} {f : α → Except (List UInt8) β} {b : β} (h : thn x f = .ok b) : ∃ a, x = .ok a ∧ f a = .ok b := by
  cases x with
  | error s => rw [thn_error] at h; cases h
  | ok a => exact ⟨a, rfl, h⟩
theorem gath_has (k : Int) (hk : k = 5 ∨ k = 6) (b : Int) (hb : b = tight k) (x : Ex) (l : List Ex) : (gath k (x :: l)).lv = lvL (x :: l) ∧ (gath k (x :: l)).nb + nbk b (gath k (x :: l)).k ≤ nbL (lst k) (x :: l) := by
  unfold gath
  cases l with
  | nil =>
    rw [if_pos (show [x].length = 1 from rfl)]
    show x.lv = lvL [x] ∧ x.nb + nbk b x.k ≤ nbL (lst k) [x]
    refine ⟨by rw [lvL, lvL, List.append_nil], ?_⟩
    rw [nbL, nbL]
    have : b ≤ lst k := by rcases hk with rfl | rfl <;> (rw [hb]; decide)
    have := nbk_le this x.k
    omega
  | cons y r =>
    rw [if_neg (by simp)]
    refine ⟨lv_nd k _ (by omega), ?_⟩
    rw [nb_nd k _ (by omega)]
    have : nbk b (nd k (x :: y :: r)).k = 0 := by
      show nbk b k = 0
      unfold nbk; rw [if_pos (by omega)]
    omega
theorem seqL_has {p : Tk → Rs} (hp : Hass 2 p) : ∀ (m : Nat) (l : List Ex) (t : Tk) (x : Ex × Tk), t = tokS t.s → seqL p m l t = .ok x → x.2 = tokS x.2.s ∧ ∃ l2 ts, x.1 = gath 5 (l ++ l2) ∧ Run t ts x.2 ∧ lvs ts = lvL l2 ∧ nbL 2 l2 ≤ wt ts := by
  intro m
  induction m with
  | zero =>
    intro l t x ht h
    rw [seqL] at h
    cases h
    exact ⟨ht, [], [], by rw [List.append_nil], rfl, rfl, Nat.le_refl _⟩
  | succ m ih =>
    intro l t x ht h
    rw [seqL] at h
    split at h
    · obtain ⟨y, hy, h⟩ := thn_some h
      obtain ⟨⟨a, a1, a2, a3⟩, hys⟩ := hp t y ht hy
      obtain ⟨hx, l2, ts, b1, b2, b3, b4⟩ := ih _ _ x hys h
      refine ⟨hx, y.1 :: l2, a ++ ts, by rw [b1, List.append_assoc]; rfl, a1.app _ b2, by rw [lvs_append, a2, b3, lvL], ?_⟩
      rw [nbL, wt_append]; omega
    · cases h
      exact ⟨ht, [], [], by rw [List.append_nil], rfl, rfl, Nat.le_refl _⟩
theorem seqP_has {p : Tk → Rs} (hp : Hass 2 p) : Hass 1 (seqP p) := by
  intro t x ht h
  unfold seqP at h
  obtain ⟨y, hy, h⟩ := thn_some h
  obtain ⟨⟨a, a1, a2, a3⟩, hys⟩ := hp t y ht hy
  obtain ⟨hx, l2, ts, b1, b2, b3, b4⟩ := seqL_has hp _ _ _ x hys h
  obtain ⟨g1, g2⟩ := gath_has 5 (.inl rfl) 1 (by decide) y.1 l2
  have b1 : x.1 = gath 5 (y.1 :: l2) := b1
  refine ⟨⟨a ++ ts, a1.app _ b2, by rw [lvs_append, a2, b3, b1, g1, lvL], ?_⟩, hx⟩
  rw [b1, wt_append]
  rw [nbL] at g2
  have : lst 5 = 2 := by decide
  rw [this] at g2
  omega
theorem altL_has {p : Tk → Rs} (hp : Hass 2 p) : ∀ (m : Nat) (l : List Ex) (t : Tk) (x : Ex × Tk), t = tokS t.s → altL p m l t = .ok x → x.2 = tokS x.2.s ∧ ∃ l2 ts, x.1 = gath 6 (l ++ l2) ∧ Run t ts x.2 ∧ lvs ts = lvL l2 ∧ nbL 1 l2 ≤ wt ts := by
  intro m
  induction m with
  | zero =>
    intro l t x ht h
    rw [altL] at h
    cases h
    exact ⟨ht, [], [], by rw [List.append_nil], rfl, rfl, Nat.le_refl _⟩
  | succ m ih =>
    intro l t x ht h
    rw [altL] at h
    split at h
    · rename_i h47
      obtain ⟨u, hu, h⟩ := thn_some h
      obtain ⟨y, hy, h⟩ := thn_some h
      obtain ⟨⟨a, a1, a2, a3⟩, hys⟩ := seqP_has hp u y (take_tokS hu) hy
      obtain ⟨hx, l2, ts, b1, b2, b3, b4⟩ := ih _ _ x hys h
      have hw : wtT t = 0 := by unfold wtT; rw [h47]; rfl
      have hl : lvT t = [] := by unfold lvT; rw [h47]; rfl
      refine ⟨hx, y.1 :: l2, [t] ++ (a ++ ts), by rw [b1, List.append_assoc]; rfl, (Run.one hu).app _ (a1.app _ b2), ?_, ?_⟩
      · rw [List.singleton_append, lvs, hl, lvs_append, a2, b3, lvL]; rfl
      · rw [nbL, List.singleton_append, wt, wt_append]; omega
    · cases h
      exact ⟨ht, [], [], by rw [List.append_nil], rfl, rfl, Nat.le_refl _⟩
theorem altP_has {p : Tk → Rs} (hp : Hass 2 p) : Hass 0 (altP p) := by
  intro t x ht h
  unfold altP at h
  obtain ⟨y, hy, h⟩ := thn_some h
  obtain ⟨⟨a, a1, a2, a3⟩, hys⟩ := seqP_has hp t y ht hy
  obtain ⟨hx, l2, ts, b1, b2, b3, b4⟩ := altL_has hp _ _ _ x hys h
  obtain ⟨g1, g2⟩ := gath_has 6 (.inr rfl) 0 (by decide) y.1 l2
  have b1 : x.1 = gath 6 (y.1 :: l2) := b1
  refine ⟨⟨a ++ ts, a1.app _ b2, by rw [lvs_append, a2, b3, b1, g1, lvL], ?_⟩, hx⟩
  rw [b1, wt_append]
  rw [nbL] at g2
  have : lst 6 = 1 := by decide
  rw [this] at g2
  omega
theorem kindB_cases (k : UInt8) (h : kindB k ≠ 0) : (kindB k = 9 ∨ kindB k = 7 ∨ kindB k = 8) ∧ k ≠ 40 ∧ k ≠ 1 := by
  unfold kindB at h ⊢
  split
  · rename_i e; rw [e]; decide
  · split
    · rename_i e; rw [e]; decide
    · split
      · rename_i e; rw [e]; decide
      · rename_i h1 h2 h3
        rw [if_neg h1, if_neg h2, if_neg h3] at h; exact absurd rfl h
theorem postL_has : ∀ (m : Nat) (e : Ex) (t : Tk) (x : Ex × Tk), t = tokS t.s → postL m e t = .ok x → x.2 = tokS x.2.s ∧ ∃ ts, Run t ts x.2 ∧ lvs ts = [] ∧ x.1.lv = e.lv ∧ x.1.nb + nbk 2 x.1.k ≤ e.nb + nbk 3 e.k + wt ts := by
  intro m
  induction m with
  | zero =>
    intro e t x ht h
    rw [postL] at h
    cases h
    refine ⟨ht, [], rfl, rfl, rfl, ?_⟩
    have := nbk_le (show (2 : Int) ≤ 3 from by decide) e.k
    show e.nb + nbk 2 e.k ≤ _
    omega
  | succ m ih =>
    intro e t x ht h
    rw [postL] at h
    split at h
    · cases h
      refine ⟨ht, [], rfl, rfl, rfl, ?_⟩
      have := nbk_le (show (2 : Int) ≤ 3 from by decide) e.k
      show e.nb + nbk 2 e.k ≤ _
      omega
    · rename_i hk
      obtain ⟨hk1, hk2, hk3⟩ := kindB_cases t.k hk
      obtain ⟨u, hu, h⟩ := thn_some h
      obtain ⟨hx, ts, b1, b2, b3, b4⟩ := ih _ _ x (take_tokS hu) h
      have hl : lvT t = [] := by unfold lvT; rw [if_neg (fun h => hk3 h.1)]
      refine ⟨hx, [t] ++ ts, (Run.one hu).app _ b1, by rw [List.singleton_append, lvs, hl, b2]; rfl, ?_, ?_⟩
      · rw [b3, lv_nd _ _ (by omega), lvL, lvL, List.append_nil]
      · rw [nb_nd _ _ (by omega), nbL, nbL] at b4
        have e1 : lst (kindB t.k) = 3 := by rcases hk1 with e | e | e <;> rw [e] <;> decide
        have e2 : nbk 3 (nd (kindB t.k) [e]).k = 0 := by show nbk 3 (kindB t.k) = 0; rcases hk1 with e | e | e <;> rw [e] <;> decide
        rw [e1, e2] at b4
        rw [List.singleton_append, wt]
        omega
/-- What a leaf is. -/
theorem leaf_kindsB (s : List UInt8) (h : (tokB s).k = 1) : ((tokB s).e.k = 1 ∨ (tokB s).e.k = 2 ∨ (tokB s).e.k = 3 ∨ (tokB s).e.k = 4) ∧ (tokB s).e.kids = [] := by
  unfold tokB at h ⊢
  split
  · rename_i h0; rw [if_pos h0] at h; cases h
  rename_i h0
  rw [if_neg h0] at h
  split
  · rename_i h1; rw [if_pos h1] at h; cases h
  rename_i h1
  rw [if_neg h1] at h
  split
  · rename_i h2; rw [if_pos h2] at h; rw [show s.headD 0 = 1 from h] at h2; cases h2
  rename_i h2
  rw [if_neg h2] at h
  cases hl : leafAt s with
  | none => rw [hl] at h; cases h
  | some x =>
    show (x.1.k = 1 ∨ x.1.k = 2 ∨ x.1.k = 3 ∨ x.1.k = 4) ∧ x.1.kids = []
    unfold leafAt at hl
    split at hl
    · obtain ⟨y, hy, rfl⟩ := Option.map_eq_some_iff.1 hl
      show ((if y.1 = [] then nd 1 [] else lfT 3 y.1).k = 1 ∨ _) ∧ _
      by_cases he : y.1 = []
      · simp only [if_pos he]; exact ⟨.inl rfl, rfl⟩
      · simp only [if_neg he]; exact ⟨.inr (.inr (.inl rfl)), rfl⟩
    · split at hl
      · obtain ⟨y, hy, rfl⟩ := Option.map_eq_some_iff.1 hl
        exact ⟨.inr (.inl rfl), rfl⟩
      · split at hl
        · cases hl; exact ⟨.inr (.inl rfl), rfl⟩
        · split at hl
          · cases hl; exact ⟨.inr (.inr (.inr rfl)), rfl⟩
          · cases hl
theorem leaf_kinds (s : List UInt8) (h : (tokS s).k = 1) : ((tokS s).e.k = 1 ∨ (tokS s).e.k = 2 ∨ (tokS s).e.k = 3 ∨ (tokS s).e.k = 4) ∧ (tokS s).e.kids = [] := by
  have hb : (tokB s).k = 1 := by
    unfold tokS arr at h
    split at h
    · exact absurd (show (4 : UInt8) = 1 from h) (by decide)
    · exact h
  have := leaf_kindsB s hb
  unfold tokS
  rw [arr_e]
  exact this
theorem leaf_has {t : Tk} (ht : t = tokS t.s) (h : t.k = 1) : lvT t = t.e.lv ∧ t.e.nb + nbk 3 t.e.k ≤ wtT t := by
  obtain ⟨h1, h2⟩ := leaf_kinds t.s (by rw [← ht]; exact h)
  rw [← ht] at h1 h2
  have h40 : ¬ t.k = 40 := by rw [h]; decide
  unfold lvT wtT
  rw [if_neg h40]
  revert h1 h2
  cases t.e with
  | mk k S tx a c kids =>
    intro h1 h2
    have h2 : kids = [] := h2
    subst h2
    show (if t.k = 1 ∧ k ≠ 1 then _ else _) = _ ∧ _ + nbk 3 k ≤ (if t.k = 1 ∧ k = 1 then 1 else 0)
    have h1 : k = 1 ∨ k = 2 ∨ k = 3 ∨ k = 4 := h1
    have hn : nbk 3 k = 0 := by rcases h1 with rfl | rfl | rfl | rfl <;> decide
    rw [Ex.lv, Ex.nb, hn]
    by_cases hk : k = 1
    · rw [if_neg (fun h => h.2 hk), if_pos hk, if_pos hk, if_pos ⟨h, hk⟩]
      exact ⟨rfl, Nat.le_refl _⟩
    · rw [if_pos ⟨h, hk⟩, if_neg hk, if_pos (by omega), if_neg hk, nbL]
      exact ⟨rfl, Nat.zero_le _⟩
theorem primP_has {p : Tk → Rs} (hp : Hass 2 p) : Hass 3 (primP p) := by
  intro t x ht h
  unfold primP at h
  split at h
  · rename_i h1
    obtain ⟨u, hu, h⟩ := thn_some h
    cases h
    obtain ⟨g1, g2⟩ := leaf_has ht h1
    exact ⟨⟨[t], Run.one hu, by rw [lvs, lvs, List.append_nil, g1], by rw [wt, wt]; exact g2⟩, take_tokS hu⟩
  split at h
  · rename_i h40
    have hw : wtT t = 1 := by unfold wtT; rw [if_pos h40]
    have hl : lvT t = [] := by unfold lvT; rw [h40]; rfl
    obtain ⟨u, hu, h⟩ := thn_some h
    split at h
    · rename_i h41
      obtain ⟨v, hv, h⟩ := thn_some h
      cases h
      have hl2 : lvT u = [] := by unfold lvT; rw [h41]; rfl
      refine ⟨⟨[t] ++ [u], (Run.one hu).app _ (Run.one hv), ?_, ?_⟩, take_tokS hv⟩
      · rw [List.singleton_append, lvs, lvs, lvs, hl, hl2]; rfl
      · rw [List.singleton_append, wt, hw]; show 1 + nbk 3 1 ≤ _; rw [show nbk 3 1 = 0 from by decide]; omega
    · obtain ⟨y, hy, h⟩ := thn_some h
      obtain ⟨⟨a, a1, a2, a3⟩, hys⟩ := altP_has hp u y (take_tokS hu) hy
      split at h
      · rename_i h41
        obtain ⟨v, hv, h⟩ := thn_some h
        cases h
        have hl2 : lvT y.2 = [] := by unfold lvT; rw [h41]; rfl
        refine ⟨⟨[t] ++ (a ++ [y.2]), (Run.one hu).app _ (a1.app _ (Run.one hv)), ?_, ?_⟩, take_tokS hv⟩
        · rw [List.singleton_append, lvs, lvs_append, hl, a2, lvs, lvs, hl2]; simp
        · rw [List.singleton_append, wt, wt_append, hw]
          show y.1.nb + nbk 3 y.1.k ≤ _
          have : nbk 3 y.1.k ≤ 1 := by unfold nbk; split <;> omega
          omega
      · cases h
  · cases h
theorem preP_has : ∀ (n : Nat), Hass 2 (preP n) := by
  intro n
  induction n with
  | zero => intro t x ht h; rw [preP] at h; cases h
  | succ n ih =>
    intro t x ht h
    rw [preP] at h
    have pref : ∀ k : Int, k = 10 ∨ k = 11 → t.k ≠ 40 ∧ t.k ≠ 1 → (thn (take t) fun u => thn (preP n u) fun x => .ok (nd k [x.1], x.2)) = .ok x → Has 2 t x ∧ x.2 = tokS x.2.s := by
      intro k hk ht2 h
      obtain ⟨u, hu, h⟩ := thn_some h
      obtain ⟨y, hy, h⟩ := thn_some h
      cases h
      obtain ⟨⟨a, a1, a2, a3⟩, hys⟩ := ih u y (take_tokS hu) hy
      have hl : lvT t = [] := by unfold lvT; rw [if_neg (fun h => ht2.2 h.1)]
      refine ⟨⟨[t] ++ a, (Run.one hu).app _ a1, ?_, ?_⟩, hys⟩
      · rw [List.singleton_append, lvs, hl, a2]
        show _ = (nd k [y.1]).lv
        rw [lv_nd _ _ (by omega), lvL, lvL, List.append_nil]; rfl
      · show (nd k [y.1]).nb + nbk 2 k ≤ _
        rw [nb_nd _ _ (by omega), nbL, nbL, List.singleton_append, wt]
        have e1 : lst k = 2 := by rcases hk with rfl | rfl <;> decide
        have e2 : nbk 2 k = 0 := by rcases hk with rfl | rfl <;> decide
        rw [e1, e2]; omega
    split at h
    · rename_i hk; exact pref 10 (.inl rfl) (by rw [hk]; decide) h
    split at h
    · rename_i hk; exact pref 11 (.inr rfl) (by rw [hk]; decide) h
    · obtain ⟨y, hy, h⟩ := thn_some h
      obtain ⟨⟨a, a1, a2, a3⟩, hys⟩ := primP_has ih t y ht hy
      obtain ⟨hx, ts, b1, b2, b3, b4⟩ := postL_has _ _ _ x hys h
      refine ⟨⟨a ++ ts, a1.app _ b1, by rw [lvs_append, a2, b2, b3, List.append_nil], ?_⟩, hx⟩
      rw [wt_append]; omega
/-- What a text that reads as an expression has: its leaves, and no fewer brackets than are printed. -/
theorem parse_has (l : List UInt8) (e : Ex) (h : parse l = .ok e) : ∃ ts u, Run (tok l) ts u ∧ u.k = 0 ∧ lvs ts = e.lv ∧ e.nb ≤ wt ts := by
  unfold parse at h
  split at h
  · cases h
  obtain ⟨x, hx, h⟩ := thn_some h
  split at h
  · rename_i h0
    cases h
    obtain ⟨⟨ts, a1, a2, a3⟩, _⟩ := altP_has (preP_has _) (tok l) x (by unfold tok; rw [tokS_s]) hx
    exact ⟨ts, x.2, a1, h0, a2, by omega⟩
  · cases h
end Go.Proofs.YtbeohmcmphebhaaDoor
