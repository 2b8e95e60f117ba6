import Derived.Test.YtokdaapmejccbaaXPeg
import Derived.Test.YtokdaapmejccbaaXWell
import Derived.WalkKit
import Derived.Below
import Derived.Deep.QuietTactic
namespace Go.Proofs.Ytokdaapmejccbaa
open Go.RowKit
open Ex.iw (iwL)
open Ex.lp (lpL)
open Ex.Ok (OkL)
set_option linter.unusedVariables false
/-! Of a grammar that is well all comes to an end. -/
def Tot (g : Gr) (s : List UInt8) (e : Ex) (p : Nat) : Prop := ∃ f r, ev g s f e p = some r
section
variable {g : Gr} {s : List UInt8}
theorem Tot.at_ {e : Ex} {p : Nat} (h : Tot g s e p) : ∃ f r, ∀ f', f ≤ f' → ev g s f' e p = some r := by
  obtain ⟨f, r, h⟩ := h
  exact ⟨f, r, fun f' hf => ev_le g s hf e p r h⟩
/-- What it says of each is kept to. -/
def Keeps (g : Gr) (s : List UInt8) (R : ByteArray → Fa) (e : Ex) : Prop := ∀ f, FDo (ev g s f) R s.length e
variable {R : ByteArray → Fa}
theorem seq_tot : ∀ (l : List Ex) (p n : Nat), p ≤ s.length → (∀ e ∈ l, Keeps g s R e ∧ ∀ q, p ≤ q → q ≤ s.length → Tot g s e q) → ∃ f r, seqE (ev g s f) l p n = some r
  | [], p, n, _, _ => ⟨0, _, rfl⟩
  | e :: l, p, n, hp, h => by
    obtain ⟨hk, ht⟩ := h e (List.mem_cons_self ..)
    obtain ⟨f1, ⟨o, k⟩, h1⟩ := (ht p (Nat.le_refl _) hp).at_
    cases o with
    | none => exact ⟨f1, (none, n + k), by rw [seqE, h1 f1 (Nat.le_refl _)]⟩
    | some q =>
      have hd := hk f1 p (some q) k hp (h1 f1 (Nat.le_refl _))
      obtain ⟨f2, r2, h2⟩ := seq_tot l q (n + k) hd.2.1 fun x hx => ⟨(h x (List.mem_cons_of_mem _ hx)).1, fun q' hq' hl => (h x (List.mem_cons_of_mem _ hx)).2 q' (Nat.le_trans hd.1 hq') hl⟩
      refine ⟨max f1 f2, r2, ?_⟩
      rw [seqE, h1 _ (Nat.le_max_left ..)]
      exact seqE_le (ev_le g s (Nat.le_max_right f1 f2)) l q (n + k) r2 h2
/-- .. where what is needed at this place is known to end, and all farther on. -/
theorem seq_iw (mb : Ex → Bool) (b : ByteArray → Bool) : ∀ (l : List Ex) (p n : Nat), p ≤ s.length → (∀ e ∈ l, Keeps g s R e ∧ mb e = (e.may R).1 ∧ (e.iw mb b = true → Tot g s e p) ∧ ∀ q, p < q → q ≤ s.length → Tot g s e q) → iwL mb b true l = true → ∃ f r, seqE (ev g s f) l p n = some r
  | [], p, n, _, _, _ => ⟨0, _, rfl⟩
  | e :: l, p, n, hp, h, hw => by
    obtain ⟨hk, hm, ht, ht'⟩ := h e (List.mem_cons_self ..)
    rw [iwL] at hw
    have he : e.iw mb b = true := by
      apply Classical.byContradiction
      intro hne
      rw [if_pos (by simpa using hne)] at hw
      cases hw
    rw [if_neg (by rw [he]; simp)] at hw
    obtain ⟨f1, ⟨o, k⟩, h1⟩ := (ht he).at_
    cases o with
    | none => exact ⟨f1, (none, n + k), by rw [seqE, h1 f1 (Nat.le_refl _)]⟩
    | some q =>
      have hd := hk f1 p (some q) k hp (h1 f1 (Nat.le_refl _))
      have hrest : ∃ f2 r2, seqE (ev g s f2) l q (n + k) = some r2 := by
        by_cases hq : q = p
        · have hmb : mb e = true := by rw [hm]; exact hd.2.2.1 hq
          rw [if_neg (by rw [hmb]; simp)] at hw
          subst hq
          exact seq_iw mb b l q (n + k) hp (fun x hx => h x (List.mem_cons_of_mem _ hx)) hw
        · exact seq_tot l q (n + k) hd.2.1 fun x hx => ⟨(h x (List.mem_cons_of_mem _ hx)).1, fun q' hq' hl => (h x (List.mem_cons_of_mem _ hx)).2.2.2 q' (by have := hd.1; omega) hl⟩
      obtain ⟨f2, r2, h2⟩ := hrest
      refine ⟨max f1 f2, r2, ?_⟩
      rw [seqE, h1 _ (Nat.le_max_left ..)]
      exact seqE_le (ev_le g s (Nat.le_max_right f1 f2)) l q (n + k) r2 h2
theorem iwL_all (mb : Ex → Bool) (b : ByteArray → Bool) : ∀ l : List Ex, iwL mb b false l = true → ∀ e ∈ l, e.iw mb b = true
  | [], _, e, he => by cases he
  | x :: l, h, e, he => by
    rw [iwL] at h
    have hx : x.iw mb b = true := by
      apply Classical.byContradiction
      intro hne
      rw [if_pos (by simpa using hne)] at h
      cases h
    rw [if_neg (by rw [hx]; simp), if_neg (by simp)] at h
    rcases List.mem_cons.1 he with rfl | he
    · exact hx
    · exact iwL_all mb b l h e he
theorem alt_tot : ∀ (l : List Ex) (p n : Nat), (∀ e ∈ l, Tot g s e p) → ∃ f r, altE (ev g s f) l p n = some r
  | [], p, n, _ => ⟨0, _, rfl⟩
  | e :: l, p, n, h => by
    obtain ⟨f1, ⟨o, k⟩, h1⟩ := (h e (List.mem_cons_self ..)).at_
    cases o with
    | some q => exact ⟨f1, (some q, n + k), by rw [altE, h1 f1 (Nat.le_refl _)]⟩
    | none =>
      obtain ⟨f2, r2, h2⟩ := alt_tot l p (n + k) fun x hx => h x (List.mem_cons_of_mem _ hx)
      refine ⟨max f1 f2, r2, ?_⟩
      rw [altE, h1 _ (Nat.le_max_left ..)]
      exact altE_le (ev_le g s (Nat.le_max_right f1 f2)) l p (n + k) r2 h2
theorem star_tot {e : Ex} (hk : Keeps g s R e) (hm : (e.may R).1 = false) : ∀ (d p n : Nat), s.length - p ≤ d → p ≤ s.length → (∀ q, p ≤ q → q ≤ s.length → Tot g s e q) → ∃ f r, starE (ev g s f) e f p n = some r := by
  intro d
  induction d with
  | zero =>
    intro p n hd hp ht
    obtain ⟨f1, ⟨o, k⟩, h1⟩ := (ht p (Nat.le_refl _) hp).at_
    have hdo := hk f1 p o k hp (h1 f1 (Nat.le_refl _))
    cases o with
    | none => exact ⟨f1 + 1, (some p, n + k), by rw [starE, h1 _ (Nat.le_succ _)]⟩
    | some q =>
      have : (e.may R).1 = true := hdo.2.2.1 (by have := hdo.1; have := hdo.2.1; omega)
      rw [hm] at this; cases this
  | succ d ih =>
    intro p n hd hp ht
    obtain ⟨f1, ⟨o, k⟩, h1⟩ := (ht p (Nat.le_refl _) hp).at_
    have hdo := hk f1 p o k hp (h1 f1 (Nat.le_refl _))
    cases o with
    | none => exact ⟨f1 + 1, (some p, n + k), by rw [starE, h1 _ (Nat.le_succ _)]⟩
    | some q =>
      have hne : q ≠ p := fun e0 => by
        have : (e.may R).1 = true := hdo.2.2.1 e0
        rw [hm] at this; cases this
      obtain ⟨f2, r2, h2⟩ := ih q (n + k) (by have := hdo.1; omega) hdo.2.1 fun q' hq' hl => ht q' (Nat.le_trans hdo.1 hq') hl
      refine ⟨max f1 f2 + 1, r2, ?_⟩
      rw [starE, h1 _ (Nat.le_trans (Nat.le_max_left f1 f2) (Nat.le_succ _))]
      exact starE_le (ev_le g s (Nat.le_trans (Nat.le_max_right f1 f2) (Nat.le_succ _))) e f2 (max f1 f2) q (n + k) r2 (Nat.le_max_right f1 f2) h2
theorem lpL_mem (mb : Ex → Bool) (rep : Bool) : ∀ l : List Ex, lpL mb rep l = false → ∀ e ∈ l, (rep && mb e) = false ∧ e.lp mb = false
  | [], _, e, he => by cases he
  | x :: l, h, e, he => by
    rw [lpL] at h
    simp only [Bool.or_eq_false_iff] at h
    rcases List.mem_cons.1 he with rfl | he
    · exact ⟨h.1.1, h.1.2⟩
    · exact lpL_mem mb rep l h.2 e he
theorem lp_kid {mb : Ex → Bool} {e x : Ex} (h : e.lp mb = false) (hx : x ∈ e.kids) : x.lp mb = false ∧ (e.k = 7 ∨ e.k = 8 → mb x = false) := by
  rw [lp_eq] at h
  have h1 := lpL_mem mb _ e.kids h x hx
  refine ⟨h1.2, fun hk => ?_⟩
  have : (decide (e.k = 7) || decide (e.k = 8)) = true := by rcases hk with h | h <;> simp [h]
  rw [this] at h1
  simpa using h1.1
theorem tot_here (lf : List Fa) (hL : Pre fLe g.rules.length (mst g.rules) lf) (hB : BOk g) (mb : Ex → Bool) (hmb : ∀ e : Ex, mb e = (e.may (ofL noF g.rules lf)).1) (b : ByteArray → Bool) (p : Nat) (hp : p ≤ s.length)
    (hb : ∀ t, IsRule g t → b t = true → ∃ x, bodyOf g t = some x ∧ Tot g s x p) (hfar : ∀ e : Ex, e.Ok (IsRule g) → e.lp mb = false → ∀ q, p < q → q ≤ s.length → Tot g s e q) :
    ∀ (N : Nat) (e : Ex), e.size ≤ N → e.Ok (IsRule g) → e.lp mb = false → e.iw mb b = true → Tot g s e p
  | 0, e, hN, _, _, _ => by have := size_eq e; omega
  | N + 1, e, hN, ho, hlp, hw => by
    have ih := tot_here lf hL hB mb hmb b p hp hb hfar N
    have ho' := (ok_eq _ e).1 ho
    have hkeep : ∀ x : Ex, x.Ok (IsRule g) → Keeps g s (ofL noF g.rules lf) x := fun x hx f => ev_does g s lf hL hB f x hx
    rw [iw_eq] at hw
    by_cases h1 : e.k = 1 ∨ e.k = 2 ∨ e.k = 3
    · exact ⟨1, (leafE s e p, 1), by rw [ev, if_pos h1]⟩
    by_cases h4 : e.k = 4
    · rw [if_pos h4] at hw
      obtain ⟨x, hx, f, r, hf⟩ := hb e.t (ho'.2.1 h4) hw
      exact ⟨f + 1, (r.1, r.2 + 1), by rw [ev, if_neg h1, if_pos h4, hx]; simp only [hf]; rfl⟩
    rw [if_neg h4] at hw
    have hks : ∀ x ∈ e.kids, x.size ≤ N := fun x hx => by have := size_kid hx; omega
    have hq : ∀ x ∈ e.kids, x.iw mb b = true → Tot g s x p := fun x hx hxw => ih x (hks x hx) (ho.kid hx) (lp_kid hlp hx).1 hxw
    have hqf : ∀ x ∈ e.kids, ∀ q, p < q → q ≤ s.length → Tot g s x q := fun x hx => hfar x (ho.kid hx) (lp_kid hlp hx).1
    by_cases h5 : e.k = 5
    · rw [h5] at hw
      obtain ⟨f, r, hf⟩ := seq_iw (R := ofL noF g.rules lf) mb b e.kids p 1 hp (fun x hx => ⟨hkeep x (ho.kid hx), hmb x, hq x hx, hqf x hx⟩) hw
      exact ⟨f + 1, r, by rw [ev, if_neg h1, if_neg h4, if_pos h5]; exact hf⟩
    have hall := iwL_all mb b e.kids (by rw [decide_eq_false h5] at hw; exact hw)
    by_cases h6 : e.k = 6
    · obtain ⟨f, r, hf⟩ := alt_tot (g := g) (s := s) e.kids p 1 fun x hx => hq x hx (hall x hx)
      exact ⟨f + 1, r, by rw [ev, if_neg h1, if_neg h4, if_neg h5, if_pos h6]; exact hf⟩
    have hone : e.kids.length = 1 := by
      have := ho'.1
      unfold formOk kidsOk at this
      rw [if_neg (by omega), if_neg (by omega)] at this
      simp only [Bool.and_eq_true] at this
      have h7 := this.2
      split at h7
      · simpa using h7
      · cases h7
    obtain ⟨x, hx⟩ := List.length_eq_one_iff.1 hone
    have hxm : x ∈ e.kids := by rw [hx]; simp
    have htx := hq x hxm (hall x hxm)
    have hfx := hqf x hxm
    have hkx := hkeep x (ho.kid hxm)
    have hall' : ∀ q, p ≤ q → q ≤ s.length → Tot g s x q := fun q h1 h2 => by
      by_cases e0 : q = p
      · rw [e0]; exact htx
      · exact hfx q (by omega) h2
    have hrep : e.k = 7 ∨ e.k = 8 → (x.may (ofL noF g.rules lf)).1 = false := fun h => by rw [← hmb]; exact (lp_kid hlp hxm).2 h
    by_cases h7 : e.k = 7
    · obtain ⟨f, r, hf⟩ := star_tot hkx (hrep (.inl h7)) (s.length - p) p 1 (Nat.le_refl _) hp hall'
      exact ⟨f + 1, r, by rw [ev, if_neg h1, if_neg h4, if_neg h5, if_neg h6, hx]; simp only; rw [if_pos h7]; exact hf⟩
    obtain ⟨f1, ⟨o, k⟩, hf1⟩ := htx.at_
    by_cases h8 : e.k = 8
    · cases o with
      | none =>
        exact ⟨f1 + 1, (none, 1 + k), by rw [ev, if_neg h1, if_neg h4, if_neg h5, if_neg h6, hx]; simp only; rw [if_neg h7, hf1 f1 (Nat.le_refl _)]; simp only; rw [if_pos h8]⟩
      | some q =>
        have hd := hkx f1 p (some q) k hp (hf1 f1 (Nat.le_refl _))
        obtain ⟨f2, r, hf2⟩ := star_tot hkx (hrep (.inr h8)) (s.length - q) q (1 + k) (Nat.le_refl _) hd.2.1 fun q' hq' hl => hall' q' (Nat.le_trans hd.1 hq') hl
        refine ⟨max f1 f2 + 1, r, ?_⟩
        rw [ev, if_neg h1, if_neg h4, if_neg h5, if_neg h6, hx]
        simp only
        rw [if_neg h7, hf1 _ (Nat.le_max_left f1 f2)]
        simp only
        rw [if_pos h8]
        exact starE_le (ev_le g s (Nat.le_max_right f1 f2)) x f2 (max f1 f2) q (1 + k) r (Nat.le_max_right f1 f2) hf2
    · exact ⟨f1 + 1, (lookE e.k p o, 1 + k), by rw [ev, if_neg h1, if_neg h4, if_neg h5, if_neg h6, hx]; simp only; rw [if_neg h7, hf1 f1 (Nat.le_refl _)]; simp only; rw [if_neg h8]⟩
theorem iw_top (mb : Ex → Bool) : ∀ e : Ex, e.iw mb (fun _ => true) = true
  | .mk k S t a c kids => by
    rw [Ex.iw]
    split
    · rfl
    · exact go mb (decide (k = 5)) kids
  where
  go (mb : Ex → Bool) (sq : Bool) : ∀ l : List Ex, iwL mb (fun _ => true) sq l = true
    | [] => by rw [iwL]
    | e :: r => by
      rw [iwL, iw_top mb e, if_neg (by simp)]
      split
      · rfl
      · exact go mb sq r
/-- A grammar that Well finds well. -/
structure WellG (g : Gr) (lf : List Fa) : Prop where
  may : Least fLe g.rules.length (mst g.rules) lf
  ok : BOk g
  nolp : ∀ r ∈ g.rules, r.2.lp (mbF g lf) = false
  all : ∃ lb, Least bLe g.rules.length (wst g.rules (mbF g lf)) lb ∧ ∀ x ∈ lb, x = true
/-- FORD: all comes to an end. -/
theorem tot_all {lf : List Fa} (hW : WellG g lf) : ∀ (d p : Nat), s.length - p ≤ d → p ≤ s.length → ∀ e : Ex, e.Ok (IsRule g) → e.lp (mbF g lf) = false → Tot g s e p := by
  intro d
  induction d with
  | zero =>
    intro p hd hp e ho hlp
    exact main hW p hp (fun e ho hlp q h1 h2 => by omega) e ho hlp
  | succ d ih =>
    intro p hd hp e ho hlp
    exact main hW p hp (fun e ho hlp q h1 h2 => ih q (by omega) h2 e ho hlp) e ho hlp
  where
  main {lf : List Fa} (hW : WellG g lf) (p : Nat) (hp : p ≤ s.length) (hfar : ∀ e : Ex, e.Ok (IsRule g) → e.lp (mbF g lf) = false → ∀ q, p < q → q ≤ s.length → Tot g s e q) (e : Ex) (ho : e.Ok (IsRule g)) (hlp : e.lp (mbF g lf) = false) : Tot g s e p := by
    have hmb : ∀ e : Ex, mbF g lf e = (e.may (ofL noF g.rules lf)).1 := fun e => rfl
    have hbodies : ∀ (i : Nat) (r : ByteArray × Ex), g.rules[i]? = some r → Tot g s r.2 p := by
      obtain ⟨lb, hlb, htr⟩ := hW.all
      let q : List Bool := g.rules.map fun r => @decide (Tot g s r.2 p) (Classical.propDecidable _)
      have hq : ∀ (i : Nat) (r : ByteArray × Ex), g.rules[i]? = some r → q[i]? = some (@decide (Tot g s r.2 p) (Classical.propDecidable _)) := fun i r hr => by
        show (List.map _ _)[i]? = _
        rw [List.getElem?_map, hr]; rfl
      have hpre : Pre bLe g.rules.length (wst g.rules (mbF g lf)) q := by
        refine ⟨by show (List.map _ _).length = _; rw [List.length_map], fun i y hy => ?_⟩
        have hil : i < g.rules.length := by
          have := (List.getElem?_eq_some_iff.1 hy).1
          have h2 : q.length = g.rules.length := by show (List.map _ _).length = _; rw [List.length_map]
          omega
        obtain ⟨r, hr⟩ : ∃ r, g.rules[i]? = some r := ⟨_, List.getElem?_eq_getElem hil⟩
        rw [hq i r hr] at hy
        have hy' := Option.some.inj hy
        subst hy'
        rw [wst_at hr]
        intro hw
        have hrm := List.mem_of_getElem? hr
        have := tot_here lf hW.may.pre hW.ok (mbF g lf) hmb (ofL false g.rules q) p hp (fun t ht hbt => by
          obtain ⟨j, r', hj, hr', hb⟩ := body_of ht
          refine ⟨r'.2, hb, ?_⟩
          unfold ofL at hbt
          rw [hj, show ((j : Nat) : Int).toNat = j from rfl, List.getD_eq_getElem?_getD, hq j r' hr'] at hbt
          exact @of_decide_eq_true _ (Classical.propDecidable _) hbt) hfar r.2.size r.2 (Nat.le_refl _) (hW.ok r hrm) (hW.nolp r hrm) hw
        exact @decide_eq_true _ (Classical.propDecidable _) this
      intro i r hr
      have hle := hlb.least q hpre
      have hil := (List.getElem?_eq_some_iff.1 hr).1
      obtain ⟨x, hx⟩ : ∃ x, lb[i]? = some x := ⟨_, List.getElem?_eq_getElem (by rw [hlb.pre.len]; exact hil)⟩
      have h1 := hle.2 i x _ hx (hq i r hr)
      exact @of_decide_eq_true _ (Classical.propDecidable _) (h1 (htr x (List.mem_of_getElem? hx)))
    exact tot_here lf hW.may.pre hW.ok (mbF g lf) hmb (fun _ => true) p hp (fun t ht _ => by
      obtain ⟨j, r', hj, hr', hb⟩ := body_of ht
      exact ⟨r'.2, hb, hbodies j r' hr'⟩) hfar e.size e (Nat.le_refl _) ho hlp (iw_top _ e)
end
theorem fiF_none {α : Type} (q : α → Bool) : ∀ (l : List α) (i : Nat), fiF q i l = none → ∀ x ∈ l, q x = false
  | [], _, _, x, hx => by cases hx
  | y :: l, i, h, x, hx => by
    rw [fiF] at h
    by_cases hy : q y = true
    · rw [if_pos hy] at h; cases h
    · rw [if_neg hy] at h
      rcases List.mem_cons.1 hx with rfl | hx
      · simpa using hy
      · exact fiF_none q l (i + 1) h x hx
/-- What Well finds well. -/
theorem wellG_of {g : Gr} {lf : List Fa} {n : Int} (hB : BOk g) (hL : Least fLe g.rules.length (mst g.rules) lf) (hN : WellN g lf n 0) : WellG g lf := by
  unfold WellN at hN
  cases hf : fiF (fun r : ByteArray × Ex => r.2.lp (mbF g lf)) 0 g.rules with
  | some i => rw [hf] at hN; exact absurd hN.2 (by decide)
  | none =>
    rw [hf] at hN
    obtain ⟨lb, hlb, h1⟩ := hN
    cases hb : fiF (fun x => x == false) 0 lb with
    | some i => rw [hb] at h1; exact absurd h1.2 (by decide)
    | none => exact ⟨hL, hB, fiF_none _ _ _ hf, lb, hlb, fun x hx => by simpa using fiF_none _ _ _ hb x hx⟩
/-- The outcome and the steps of each at each place. -/
theorem evs_ex {g : Gr} {s : List UInt8} {lf : List Fa} (hW : WellG g lf) {e : Ex} (ho : e.Ok (IsRule g)) (hlp : e.lp (mbF g lf) = false) {p : Nat} (hp : p ≤ s.length) : ∃ o n, Evs g s e p o n ∧ Does (e.may (ofL noF g.rules lf)) s.length p o := by
  obtain ⟨f, ⟨o, n⟩, h⟩ := tot_all (s := s) hW (s.length - p) p (Nat.le_refl _) hp e ho hlp
  exact ⟨o, n, ⟨f, h⟩, ev_does g s lf hW.may.pre hW.ok f e ho p o n hp h⟩
end Go.Proofs.Ytokdaapmejccbaa
namespace Go.Proofs.Ytokdaapmejccbaa
open Go.RowKit
open Ex.iw (iwL)
set_option linter.unusedVariables false
set_option linter.unusedSimpArgs false
/-- An expression without a set. -/
def exo (k : Int) (t : ByteArray) (a : Option Addr) (c : Nat) (l : List Ex) : Ex := .mk k 0 t a c l
theorem wd_none (i : Nat) : wd 0 i = 0 := by simp [wd]
theorem exo_val (k : Int) (t : ByteArray) (a : Option Addr) (c : Nat) (l : List Ex) : (exo k t a c l).val = .agg #[.int .i64 k, .int .u64 0, .int .u64 0, .int .u64 0, .int .u64 0, .string t, .slice a l.length c] := by
  simp only [Ex.val, Ex.cells, exo, Ex.k, Ex.S, Ex.t, Ex.a, Ex.c, Ex.kids, wd_none]
theorem lit_any (s : ByteArray) (w : World) : Calls Try.prog 26 #[.string s] w fun r W' => r = .returned (exo 3 s none 0 []).val ∧ Below w.heap.size w W' := by
  rw [exo_val]
  go_enter Try.func26, Try.ntmps26
  go_wp2_with fail
  exact bodyPost_ret (by simp [results, Try.results26, go_sem]) rfl ⟨rfl, (Below.refl w.heap.size w).alloc (Nat.le_refl _) _⟩
theorem ref_any (s : ByteArray) (w : World) : Calls Try.prog 30 #[.string s] w fun r W' => r = .returned (exo 4 s none 0 []).val ∧ Below w.heap.size w W' := by
  rw [exo_val]
  go_enter Try.func30, Try.ntmps30
  go_wp2_with fail
  exact bodyPost_ret (by simp [results, Try.results30, go_sem]) rfl ⟨rfl, (Below.refl w.heap.size w).alloc (Nat.le_refl _) _⟩
theorem of_any (k : Int) (a : Option Addr) (l : List Ex) (c : Nat) (w : World) : Calls Try.prog 29 #[.int .i64 k, .slice a l.length c] w fun r W' => r = .returned (exo k ByteArray.empty a c l).val ∧ Below w.heap.size w W' := by
  rw [exo_val]
  go_enter Try.func29, Try.ntmps29
  go_wp2_with fail
  exact bodyPost_ret (v := .agg #[.int .i64 k, .int .u64 0, .int .u64 0, .int .u64 0, .int .u64 0, .string ByteArray.empty, .slice a l.length c]) (by simp [results, Try.results29, go_sem]; rfl) rfl ⟨rfl, (Below.refl w.heap.size w).alloc (Nat.le_refl _) _⟩
/-- A literal, and what comes behind it. -/
def grd (x : ByteArray) (a : Option Addr) (c : Nat) (e : Ex) : Ex := exo 5 ByteArray.empty a c [exo 3 x none 0 [], e]
theorem mb_lit (g : Gr) (lf : List Fa) (x : ByteArray) : mbF g lf (exo 3 x none 0 []) = false := by
  show ((exo 3 x none 0 []).may _).1 = false
  rw [may_eq]
  rfl
theorem iw_grd (g : Gr) (lf : List Fa) (R : ByteArray → Bool) (x : ByteArray) (a : Option Addr) (c : Nat) (e : Ex) : (grd x a c e).iw (mbF g lf) R = true := by
  unfold grd exo
  rw [Ex.iw, if_neg (by decide), iwL]
  have h1 : (Ex.mk 3 0 x none 0 []).iw (mbF g lf) R = true := by rw [Ex.iw, if_neg (by decide), iwL]
  have h2 : mbF g lf (Ex.mk 3 0 x none 0 []) = false := mb_lit g lf x
  rw [h1, h2]
  rfl
/-- Behind a literal any rule may come. -/
theorem grd_well (g : Gr) (lf : List Fa) (n e : Int) (hg : ∀ r ∈ g.rules, ∃ x a c b, r.2 = grd x a c b) (h : WellN g lf n e) : e = 9 ∨ e = 0 := by
  unfold WellN at h
  cases hf : fiF (fun r : ByteArray × Ex => r.2.lp (mbF g lf)) 0 g.rules with
  | some i => rw [hf] at h; exact .inl h.2
  | none =>
    rw [hf] at h
    obtain ⟨lb, hL, h1⟩ := h
    have hall : ∀ y ∈ lb, y = true := fun y hy => by
      obtain ⟨i, hi⟩ := List.getElem?_of_mem hy
      have hlt : i < g.rules.length := by rw [← hL.pre.len]; exact (List.getElem?_eq_some_iff.1 hi).1
      obtain ⟨r, hr⟩ : ∃ r, g.rules[i]? = some r := ⟨_, List.getElem?_eq_getElem hlt⟩
      obtain ⟨x, a, c, b, hb⟩ := hg r (List.mem_of_getElem? hr)
      have h2 := hL.pre.all i y hi
      rw [wst_at hr, hb, iw_grd] at h2
      exact h2 rfl
    have hnone : ∀ (l : List Bool) (i : Nat), (∀ y ∈ l, y = true) → fiF (fun x => x == false) i l = none := by
      intro l
      induction l with
      | nil => intro i _; rfl
      | cons b l ih =>
        intro i h
        rw [fiF, h b (List.mem_cons_self ..), ih (i + 1) fun y hy => h y (List.mem_cons_of_mem _ hy)]
        rfl
    rw [hnone lb 0 hall] at h1
    exact .inr h1.2
theorem chk_codes : ∀ (l : List (Int × Ex)) (n : Nat), chk n l ≠ 8 ∧ chk n l ≠ 9
  | [], n => by rw [chk]; decide
  | (d, x) :: r, n => by
    rw [chk]
    split
    · decide
    · split
      · decide
      · split
        · exact chk_codes r (n + 1)
        · decide
theorem rule_codes (all : List (ByteArray × Ex)) (i : Nat) (r : ByteArray × Ex) : ruleChk all i r ≠ 8 := by
  unfold ruleChk
  split
  · decide
  · split
    · decide
    · exact (chk_codes _ _).1
theorem rules_codes (all : List (ByteArray × Ex)) : ∀ (l : List (ByteArray × Ex)) (i : Nat), rulesChk all i l ≠ 8
  | [], i => by rw [rulesChk]; decide
  | r :: l, i => by
    rw [rulesChk]
    split
    · exact rule_codes all i r
    · exact rules_codes all l (i + 1)
theorem gcodes (l : List (ByteArray × Ex)) : gcheck l ≠ 8 := by
  unfold gcheck
  split
  · decide
  · split
    · decide
    · split
      · exact rules_codes l l 0
      · split
        · decide
        · split <;> decide
/-- One rule, named a. -/
theorem one_any (e : Ex) (w : World) (hin : e.In w.heap.size w) : Calls Try.prog 25 #[e.val] w fun r W' => ∃ g' : Gr, r = .returned g'.val ∧ g'.rules = [((⟨#[97]⟩ : ByteArray), e)] ∧ g'.In W'.heap.size W' ∧ Below w.heap.size w W' := by
  have hA := (((Below.refl w.heap.size w).alloc (Nat.le_refl _) (.cells e.cells 57)).alloc (by simp) (.cells #[.slice (some ⟨w.heap.size + 1 + 1, 0, none⟩) 1 1] 24)).alloc (by simp; omega) (.cells (rcell ((⟨#[97]⟩ : ByteArray), e)).toArray 76)
  have bN := BoxN.new ((w.alloc (.cells e.cells 57)).alloc (.cells #[.slice (some ⟨w.heap.size + 1 + 1, 0, none⟩) 1 1] 24)) 76 (rcell ((⟨#[97]⟩ : ByteArray), e)).toArray
  have HF : Hid (Gr.In ((((w.alloc (.cells e.cells 57)).alloc (.cells #[.slice (some ⟨w.heap.size + 1 + 1, 0, none⟩) 1 1] 24)).alloc (.cells (rcell ((⟨#[97]⟩ : ByteArray), e)).toArray 76))).heap.size ((((w.alloc (.cells e.cells 57)).alloc (.cells #[.slice (some ⟨w.heap.size + 1 + 1, 0, none⟩) 1 1] 24)).alloc (.cells (rcell ((⟨#[97]⟩ : ByteArray), e)).toArray 76))) ⟨some ⟨w.heap.size + 1 + 1, 0, none⟩, 1, [((⟨#[97]⟩ : ByteArray), e)]⟩ ∧ Below w.heap.size w ((((w.alloc (.cells e.cells 57)).alloc (.cells #[.slice (some ⟨w.heap.size + 1 + 1, 0, none⟩) 1 1] 24)).alloc (.cells (rcell ((⟨#[97]⟩ : ByteArray), e)).toArray 76)))) := by
    refine ⟨⟨by simp, fun j r hr => ?_⟩, hA⟩
    have hj : j = 0 := by have := (List.getElem?_eq_some_iff.1 hr).1; simp at this; omega
    subst hj
    have hr' : r = ((⟨#[97]⟩ : ByteArray), e) := by simpa using hr.symm
    subst hr'
    refine ⟨⟨_, 0, rfl, by simp, fun m hm => ?_⟩, (by show (⟨#[97]⟩ : ByteArray).size ≤ _; decide), (hin.below hA).mono hA.size⟩
    have h5 := bN.cell m
    simp only [World.size_alloc] at h5
    rw [show 0 + 0 * 8 + m = m from by omega, h5, List.getElem?_toArray]
  clear hA bN hin
  rw [val_eq]
  rw [cells_eq, rcell_eq] at HF
  go_enter Try.func25, Try.ntmps25
  go_wp2_with fail
  exact bodyPost_ret (by simp [results, Try.results25, go_sem]; rfl) rfl ⟨_, rfl, rfl, HF.out⟩
end Go.Proofs.Ytokdaapmejccbaa
namespace Go.Proofs.Ytokdaapmejccbaa
open Go.RowKit
open Ex.iw (iwL)
open Ex.lp (lpL)
open Ex.nodes (nodesL)
set_option linter.unusedVariables false
set_option linter.unusedSimpArgs false
def na : ByteArray := ⟨#[97]⟩
def nx : ByteArray := ⟨#[120]⟩
/-- A grammar of one rule that names itself. -/
theorem one_check (e : Ex) (h : check e = 0) (hr : refsR e = [na]) : gcheck [(na, e)] = 0 := by
  have hf : fnd [(na, e)] na = 0 := by unfold fnd; rw [fndF, if_pos rfl]; rfl
  have h1 : rulesChk [(na, e)] 0 [(na, e)] = 0 := by
    have : ruleChk [(na, e)] 0 (na, e) = 0 := by
      unfold ruleChk
      rw [if_neg (show ¬ isName na.data.toList = false by decide +kernel), if_neg (show ¬ fnd [(na, e)] na ≠ ((0 : Nat) : Int) by rw [hf]; decide)]
      exact h
    rw [rulesChk, rulesChk, this]
    rfl
  have h2 : ¬ 120 < gcount [(na, e)] := by
    rw [gcount, gcount]
    unfold sizeR
    rw [show check (na, e).2 = 0 from h, if_pos rfl]
    have : (e.nodes 1).length ≤ 60 := check_len e h
    show ¬ 120 < (((e.nodes 1).length : Nat) : Int) + 0
    omega
  have h3 : named [(na, e)] [(na, e)] = true := by
    rw [named, named]
    unfold insR
    rw [hr, List.map_cons, hf]
    rfl
  unfold gcheck
  rw [if_neg (by simp), if_neg (by simp), h1, if_neg (by simp), if_neg h2, if_pos h3]
/-- The first: a literal, then itself. -/
def eb1 (a : Option Addr) (c : Nat) : Ex := grd nx a c (exo 4 na none 0 [])
/-- The second: perhaps a literal, then itself. -/
def eb2 (a : Option Addr) (c : Nat) (a' : Option Addr) (c' : Nat) : Ex := exo 5 ByteArray.empty a c [exo 9 ByteArray.empty a' c' [exo 3 nx none 0 []], exo 4 na none 0 []]
theorem w2 : wrap64 (1 + 1) = 2 := by decide +kernel
theorem w3 : wrap64 (2 + 1) = 3 := by decide +kernel
theorem eb1_nodes (a : Option Addr) (c : Nat) : (eb1 a c).nodes 1 = [(1, eb1 a c), (2, exo 3 nx none 0 []), (2, exo 4 na none 0 [])] := by
  unfold eb1 grd exo
  rw [Ex.nodes, nodesL, nodesL, nodesL, Ex.nodes, Ex.nodes, nodesL, w2]
  rfl
theorem eb2_nodes (a : Option Addr) (c : Nat) (a' : Option Addr) (c' : Nat) : (eb2 a c a' c').nodes 1 = [(1, eb2 a c a' c'), (2, exo 9 ByteArray.empty a' c' [exo 3 nx none 0 []]), (3, exo 3 nx none 0 []), (2, exo 4 na none 0 [])] := by
  unfold eb2 exo
  rw [Ex.nodes, nodesL, nodesL, nodesL, Ex.nodes, Ex.nodes, nodesL, nodesL, Ex.nodes, nodesL, w2, w3, nodesL]
  rfl
theorem noS_none : noS 0 = true := by decide +kernel
theorem f5 (a : Option Addr) (c : Nat) (x y : Ex) : formOk (exo 5 ByteArray.empty a c [x, y]) = true := by
  unfold formOk textOk setOk kidsOk
  simp [exo, Ex.k, Ex.t, Ex.S, Ex.kids]
  exact noS_none
theorem f9 (a : Option Addr) (c : Nat) (x : Ex) : formOk (exo 9 ByteArray.empty a c [x]) = true := by
  unfold formOk textOk setOk kidsOk
  simp [exo, Ex.k, Ex.t, Ex.S, Ex.kids]
  exact noS_none
theorem f3 : formOk (exo 3 nx none 0 []) = true := by decide +kernel
theorem f4 : formOk (exo 4 na none 0 []) = true := by decide +kernel
theorem eb1_check (a : Option Addr) (c : Nat) : check (eb1 a c) = 0 := by
  unfold check
  rw [eb1_nodes]
  rw [chk, if_neg (by decide), if_neg (by decide), if_pos (show formOk (eb1 a c) = true from f5 _ _ _ _), chk, if_neg (by decide), if_neg (by decide), if_pos f3, chk, if_neg (by decide), if_neg (by decide), if_pos f4, chk]
theorem eb2_check (a : Option Addr) (c : Nat) (a' : Option Addr) (c' : Nat) : check (eb2 a c a' c') = 0 := by
  unfold check
  rw [eb2_nodes]
  rw [chk, if_neg (by decide), if_neg (by decide), if_pos (show formOk (eb2 a c a' c') = true from f5 _ _ _ _), chk, if_neg (by decide), if_neg (by decide), if_pos (f9 _ _ _), chk, if_neg (by decide), if_neg (by decide), if_pos f3, chk, if_neg (by decide), if_neg (by decide), if_pos f4, chk]
theorem eb1_refs (a : Option Addr) (c : Nat) : refsR (eb1 a c) = [na] := by
  unfold refsR
  rw [if_pos (eb1_check a c), eb1_nodes]
  rfl
theorem eb2_refs (a : Option Addr) (c : Nat) (a' : Option Addr) (c' : Nat) : refsR (eb2 a c a' c') = [na] := by
  unfold refsR
  rw [if_pos (eb2_check a c a' c'), eb2_nodes]
  rfl
theorem eb1_lp (mb : Ex → Bool) (a : Option Addr) (c : Nat) : (eb1 a c).lp mb = false := by
  unfold eb1 grd exo
  rw [Ex.lp, lpL, lpL, lpL, Ex.lp, Ex.lp, lpL]
  rfl
theorem eb2_lp (mb : Ex → Bool) (a : Option Addr) (c : Nat) (a' : Option Addr) (c' : Nat) : (eb2 a c a' c').lp mb = false := by
  unfold eb2 exo
  rw [Ex.lp, lpL, lpL, lpL, Ex.lp, Ex.lp, lpL, lpL, Ex.lp, lpL]
  rfl
/-- Behind the literal it is well. -/
theorem eb1_well (g : Gr) (lf : List Fa) (n e : Int) (a : Option Addr) (c : Nat) (hg : g.rules = [(na, eb1 a c)]) (h : WellN g lf n e) : e = 0 := by
  rcases grd_well g lf n e (fun r hr => by rw [hg] at hr; cases List.mem_singleton.1 hr; exact ⟨_, _, _, _, rfl⟩) h with h9 | h0
  · exfalso
    unfold WellN at h
    rw [hg, fiF, if_neg (by rw [eb1_lp]; decide), fiF] at h
    obtain ⟨lb, -, h1⟩ := h
    split at h1
    · have := h1.2; omega
    · have := h1.2; omega
  · exact h0
theorem mb_opt (g : Gr) (lf : List Fa) (a : Option Addr) (c : Nat) : mbF g lf (exo 9 ByteArray.empty a c [exo 3 nx none 0 []]) = true := by
  show ((exo 9 ByteArray.empty a c [exo 3 nx none 0 []]).may _).1 = true
  rw [may_eq]
  rfl
/-- Behind what may be empty it is not. -/
theorem eb2_well (g : Gr) (lf : List Fa) (n e : Int) (a : Option Addr) (c : Nat) (a' : Option Addr) (c' : Nat) (hg : g.rules = [(na, eb2 a c a' c')]) (h : WellN g lf n e) : e = 8 := by
  unfold WellN at h
  rw [hg, fiF, if_neg (by rw [eb2_lp]; decide), fiF] at h
  obtain ⟨lb, hL, h1⟩ := h
  have hf : fnd [(na, eb2 a c a' c')] na = 0 := by unfold fnd; rw [fndF, if_pos rfl]; rfl
  have hp : Pre bLe 1 (wst [(na, eb2 a c a' c')] (mbF g lf)) [false] := ⟨rfl, fun i y hy => by
    have hi : i = 0 := by have := (List.getElem?_eq_some_iff.1 hy).1; simp at this; omega
    subst hi
    rw [wst_at (r := (na, eb2 a c a' c')) rfl]
    have h2 : (eb2 a c a' c').iw (mbF g lf) (ofL false [(na, eb2 a c a' c')] [false]) = false := by
      have h3 := mb_opt g lf a' c'
      have h4 : ofL false [(na, eb2 a c a' c')] [false] na = false := by unfold ofL; rw [hf]; rfl
      generalize ofL false [(na, eb2 a c a' c')] [false] = R at *
      generalize mbF g lf = mb at *
      unfold eb2 exo at *
      have h6 : (Ex.mk 3 0 nx none 0 []).iw mb R = true := by rw [Ex.iw, if_neg (by decide), iwL]
      have h5 : (Ex.mk 9 0 ByteArray.empty a' c' [.mk 3 0 nx none 0 []]).iw mb R = true := by
        rw [Ex.iw, if_neg (by decide), iwL, h6, iwL]
        cases mb (.mk 3 0 nx none 0 []) <;> rfl
      have h7 : (Ex.mk 4 0 na none 0 []).iw mb R = false := by rw [Ex.iw, if_pos rfl, h4]
      rw [Ex.iw, if_neg (by decide), iwL, h5, h3, iwL, h7]
      rfl
    rw [h2]
    intro h; cases h⟩
  have hle := hL.least _ hp
  have hlen : lb.length = 1 := hL.pre.len
  obtain ⟨y, rfl⟩ := List.length_eq_one_iff.1 hlen
  have hy : y = false := by
    have := hle.2 0 y false rfl rfl
    cases y
    · rfl
    · exact absurd (this rfl) (by decide)
  subst hy
  exact h1.2
end Go.Proofs.Ytokdaapmejccbaa
