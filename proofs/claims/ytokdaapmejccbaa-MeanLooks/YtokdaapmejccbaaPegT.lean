import Derived.Test.YtokdaapmejccbaaPeg
import Derived.Test.YtokdaapmejccbaaWell
namespace Go.Proofs.Ytokdaapmejccbaa
open Go.RowKit
open Ex.iw (iwL)
open Ex.lp (lpL)
open Ex.Ok (OkL)
set_option linter.unusedVariables false
/-! Of a grammar that is well all comes to an end. -/
def Tot (g : Gr) (s : List UInt8) (e : Ex) (p : Nat) : Prop := ∃ f r, ev g s f e p = some r
section
variable {g : Gr} {s : List UInt8}
theorem Tot.at_ {e : Ex} {p : Nat} (h : Tot g s e p) : ∃ f r, ∀ f', f ≤ f' → ev g s f' e p = some r := by
  obtain ⟨f, r, h⟩ := h
  exact ⟨f, r, fun f' hf => ev_le g s hf e p r h⟩
/-- What it says of each is kept to. -/
def Keeps (g : Gr) (s : List UInt8) (R : ByteArray → Fa) (e : Ex) : Prop := ∀ f, FDo (ev g s f) R s.length e
variable {R : ByteArray → Fa}
theorem seq_tot : ∀ (l : List Ex) (p n : Nat), p ≤ s.length → (∀ e ∈ l, Keeps g s R e ∧ ∀ q, p ≤ q → q ≤ s.length → Tot g s e q) → ∃ f r, seqE (ev g s f) l p n = some r
  | [], p, n, _, _ => ⟨0, _, rfl⟩
  | e :: l, p, n, hp, h => by
    obtain ⟨hk, ht⟩ := h e (List.mem_cons_self ..)
    obtain ⟨f1, ⟨o, k⟩, h1⟩ := (ht p (Nat.le_refl _) hp).at_
    cases o with
    | none => exact ⟨f1, (none, n + k), by rw [seqE, h1 f1 (Nat.le_refl _)]⟩
    | some q =>
      have hd := hk f1 p (some q) k hp (h1 f1 (Nat.le_refl _))
      obtain ⟨f2, r2, h2⟩ := seq_tot l q (n + k) hd.2.1 fun x hx => ⟨(h x (List.mem_cons_of_mem _ hx)).1, fun q' hq' hl => (h x (List.mem_cons_of_mem _ hx)).2 q' (Nat.le_trans hd.1 hq') hl⟩
      refine ⟨max f1 f2, r2, ?_⟩
      rw [seqE, h1 _ (Nat.le_max_left ..)]
      exact seqE_le (ev_le g s (Nat.le_max_right f1 f2)) l q (n + k) r2 h2
/-- .. where what is needed at this place is known to end, and all farther on. -/
theorem seq_iw (mb : Ex → Bool) (b : ByteArray → Bool) : ∀ (l : List Ex) (p n : Nat), p ≤ s.length → (∀ e ∈ l, Keeps g s R e ∧ mb e = (e.may R).1 ∧ (e.iw mb b = true → Tot g s e p) ∧ ∀ q, p < q → q ≤ s.length → Tot g s e q) → iwL mb b true l = true → ∃ f r, seqE (ev g s f) l p n = some r
  | [], p, n, _, _, _ => ⟨0, _, rfl⟩
  | e :: l, p, n, hp, h, hw => by
    obtain ⟨hk, hm, ht, ht'⟩ := h e (List.mem_cons_self ..)
    rw [iwL] at hw
    have he : e.iw mb b = true := by
      apply Classical.byContradiction
      intro hne
      rw [if_pos (by simpa using hne)] at hw
      cases hw
    rw [if_neg (by rw [he]; simp)] at hw
    obtain ⟨f1, ⟨o, k⟩, h1⟩ := (ht he).at_
    cases o with
    | none => exact ⟨f1, (none, n + k), by rw [seqE, h1 f1 (Nat.le_refl _)]⟩
    | some q =>
      have hd := hk f1 p (some q) k hp (h1 f1 (Nat.le_refl _))
      have hrest : ∃ f2 r2, seqE (ev g s f2) l q (n + k) = some r2 := by
        by_cases hq : q = p
        · have hmb : mb e = true := by rw [hm]; exact hd.2.2.1 hq
          rw [if_neg (by rw [hmb]; simp)] at hw
          subst hq
          exact seq_iw mb b l q (n + k) hp (fun x hx => h x (List.mem_cons_of_mem _ hx)) hw
        · exact seq_tot l q (n + k) hd.2.1 fun x hx => ⟨(h x (List.mem_cons_of_mem _ hx)).1, fun q' hq' hl => (h x (List.mem_cons_of_mem _ hx)).2.2.2 q' (by have := hd.1; omega) hl⟩
      obtain ⟨f2, r2, h2⟩ := hrest
      refine ⟨max f1 f2, r2, ?_⟩
      rw [seqE, h1 _ (Nat.le_max_left ..)]
      exact seqE_le (ev_le g s (Nat.le_max_right f1 f2)) l q (n + k) r2 h2
theorem iwL_all (mb : Ex → Bool) (b : ByteArray → Bool) : ∀ l : List Ex, iwL mb b false l = true → ∀ e ∈ l, e.iw mb b = true
  | [], _, e, he => by cases he
  | x :: l, h, e, he => by
    rw [iwL] at h
    have hx : x.iw mb b = true := by
      apply Classical.byContradiction
      intro hne
      rw [if_pos (by simpa using hne)] at h
      cases h
    rw [if_neg (by rw [hx]; simp), if_neg (by simp)] at h
    rcases List.mem_cons.1 he with rfl | he
    · exact hx
    · exact iwL_all mb b l h e he
theorem alt_tot : ∀ (l : List Ex) (p n : Nat), (∀ e ∈ l, Tot g s e p) → ∃ f r, altE (ev g s f) l p n = some r
  | [], p, n, _ => ⟨0, _, rfl⟩
  | e :: l, p, n, h => by
    obtain ⟨f1, ⟨o, k⟩, h1⟩ := (h e (List.mem_cons_self ..)).at_
    cases o with
    | some q => exact ⟨f1, (some q, n + k), by rw [altE, h1 f1 (Nat.le_refl _)]⟩
    | none =>
      obtain ⟨f2, r2, h2⟩ := alt_tot l p (n + k) fun x hx => h x (List.mem_cons_of_mem _ hx)
      refine ⟨max f1 f2, r2, ?_⟩
      rw [altE, h1 _ (Nat.le_max_left ..)]
      exact altE_le (ev_le g s (Nat.le_max_right f1 f2)) l p (n + k) r2 h2
theorem star_tot {e : Ex} (hk : Keeps g s R e) (hm : (e.may R).1 = false) : ∀ (d p n : Nat), s.length - p ≤ d → p ≤ s.length → (∀ q, p ≤ q → q ≤ s.length → Tot g s e q) → ∃ f r, starE (ev g s f) e f p n = some r := by
  intro d
  induction d with
  | zero =>
    intro p n hd hp ht
    obtain ⟨f1, ⟨o, k⟩, h1⟩ := (ht p (Nat.le_refl _) hp).at_
    have hdo := hk f1 p o k hp (h1 f1 (Nat.le_refl _))
    cases o with
    | none => exact ⟨f1 + 1, (some p, n + k), by rw [starE, h1 _ (Nat.le_succ _)]⟩
    | some q =>
      have : (e.may R).1 = true := hdo.2.2.1 (by have := hdo.1; have := hdo.2.1; omega)
      rw [hm] at this; cases this
  | succ d ih =>
    intro p n hd hp ht
    obtain ⟨f1, ⟨o, k⟩, h1⟩ := (ht p (Nat.le_refl _) hp).at_
    have hdo := hk f1 p o k hp (h1 f1 (Nat.le_refl _))
    cases o with
    | none => exact ⟨f1 + 1, (some p, n + k), by rw [starE, h1 _ (Nat.le_succ _)]⟩
    | some q =>
      have hne : q ≠ p := fun e0 => by
        have : (e.may R).1 = true := hdo.2.2.1 e0
        rw [hm] at this; cases this
      obtain ⟨f2, r2, h2⟩ := ih q (n + k) (by have := hdo.1; omega) hdo.2.1 fun q' hq' hl => ht q' (Nat.le_trans hdo.1 hq') hl
      refine ⟨max f1 f2 + 1, r2, ?_⟩
      rw [starE, h1 _ (Nat.le_trans (Nat.le_max_left f1 f2) (Nat.le_succ _))]
      exact starE_le (ev_le g s (Nat.le_trans (Nat.le_max_right f1 f2) (Nat.le_succ _))) e f2 (max f1 f2) q (n + k) r2 (Nat.le_max_right f1 f2) h2
theorem lpL_mem (mb : Ex → Bool) (rep : Bool) : ∀ l : List Ex, lpL mb rep l = false → ∀ e ∈ l, (rep && mb e) = false ∧ e.lp mb = false
  | [], _, e, he => by cases he
  | x :: l, h, e, he => by
    rw [lpL] at h
    simp only [Bool.or_eq_false_iff] at h
    rcases List.mem_cons.1 he with rfl | he
    · exact ⟨h.1.1, h.1.2⟩
    · exact lpL_mem mb rep l h.2 e he
theorem lp_kid {mb : Ex → Bool} {e x : Ex} (h : e.lp mb = false) (hx : x ∈ e.kids) : x.lp mb = false ∧ (e.k = 7 ∨ e.k = 8 → mb x = false) := by
  rw [lp_eq] at h
  have h1 := lpL_mem mb _ e.kids h x hx
  refine ⟨h1.2, fun hk => ?_⟩
  have : (decide (e.k = 7) || decide (e.k = 8)) = true := by rcases hk with h | h <;> simp [h]
  rw [this] at h1
  simpa using h1.1
theorem tot_here (lf : List Fa) (hL : Pre fLe g.rules.length (mst g.rules) lf) (hB : BOk g) (mb : Ex → Bool) (hmb : ∀ e : Ex, mb e = (e.may (ofL noF g.rules lf)).1) (b : ByteArray → Bool) (p : Nat) (hp : p ≤ s.length)
    (hb : ∀ t, IsRule g t → b t = true → ∃ x, bodyOf g t = some x ∧ Tot g s x p) (hfar : ∀ e : Ex, e.Ok (IsRule g) → e.lp mb = false → ∀ q, p < q → q ≤ s.length → Tot g s e q) :
    ∀ (N : Nat) (e : Ex), e.size ≤ N → e.Ok (IsRule g) → e.lp mb = false → e.iw mb b = true → Tot g s e p
  | 0, e, hN, _, _, _ => by have := size_eq e; omega
  | N + 1, e, hN, ho, hlp, hw => by
    have ih := tot_here lf hL hB mb hmb b p hp hb hfar N
    have ho' := (ok_eq _ e).1 ho
    have hkeep : ∀ x : Ex, x.Ok (IsRule g) → Keeps g s (ofL noF g.rules lf) x := fun x hx f => ev_does g s lf hL hB f x hx
    rw [iw_eq] at hw
    by_cases h1 : e.k = 1 ∨ e.k = 2 ∨ e.k = 3
    · exact ⟨1, (leafE s e p, 1), by rw [ev, if_pos h1]⟩
    by_cases h4 : e.k = 4
    · rw [if_pos h4] at hw
      obtain ⟨x, hx, f, r, hf⟩ := hb e.t (ho'.2.1 h4) hw
      exact ⟨f + 1, (r.1, r.2 + 1), by rw [ev, if_neg h1, if_pos h4, hx]; simp only [hf]; rfl⟩
    rw [if_neg h4] at hw
    have hks : ∀ x ∈ e.kids, x.size ≤ N := fun x hx => by have := size_kid hx; omega
    have hq : ∀ x ∈ e.kids, x.iw mb b = true → Tot g s x p := fun x hx hxw => ih x (hks x hx) (ho.kid hx) (lp_kid hlp hx).1 hxw
    have hqf : ∀ x ∈ e.kids, ∀ q, p < q → q ≤ s.length → Tot g s x q := fun x hx => hfar x (ho.kid hx) (lp_kid hlp hx).1
    by_cases h5 : e.k = 5
    · rw [h5] at hw
      obtain ⟨f, r, hf⟩ := seq_iw (R := ofL noF g.rules lf) mb b e.kids p 1 hp (fun x hx => ⟨hkeep x (ho.kid hx), hmb x, hq x hx, hqf x hx⟩) hw
      exact ⟨f + 1, r, by rw [ev, if_neg h1, if_neg h4, if_pos h5]; exact hf⟩
    have hall := iwL_all mb b e.kids (by rw [decide_eq_false h5] at hw; exact hw)
    by_cases h6 : e.k = 6
    · obtain ⟨f, r, hf⟩ := alt_tot (g := g) (s := s) e.kids p 1 fun x hx => hq x hx (hall x hx)
      exact ⟨f + 1, r, by rw [ev, if_neg h1, if_neg h4, if_neg h5, if_pos h6]; exact hf⟩
    have hone : e.kids.length = 1 := by
      have := ho'.1
      unfold formOk kidsOk at this
      rw [if_neg (by omega), if_neg (by omega)] at this
      simp only [Bool.and_eq_true] at this
      have h7 := this.2
      split at h7
      · simpa using h7
      · cases h7
    obtain ⟨x, hx⟩ := List.length_eq_one_iff.1 hone
    have hxm : x ∈ e.kids := by rw [hx]; simp
    have htx := hq x hxm (hall x hxm)
    have hfx := hqf x hxm
    have hkx := hkeep x (ho.kid hxm)
    have hall' : ∀ q, p ≤ q → q ≤ s.length → Tot g s x q := fun q h1 h2 => by
      by_cases e0 : q = p
      · rw [e0]; exact htx
      · exact hfx q (by omega) h2
    have hrep : e.k = 7 ∨ e.k = 8 → (x.may (ofL noF g.rules lf)).1 = false := fun h => by rw [← hmb]; exact (lp_kid hlp hxm).2 h
    by_cases h7 : e.k = 7
    · obtain ⟨f, r, hf⟩ := star_tot hkx (hrep (.inl h7)) (s.length - p) p 1 (Nat.le_refl _) hp hall'
      exact ⟨f + 1, r, by rw [ev, if_neg h1, if_neg h4, if_neg h5, if_neg h6, hx]; simp only; rw [if_pos h7]; exact hf⟩
    obtain ⟨f1, ⟨o, k⟩, hf1⟩ := htx.at_
    by_cases h8 : e.k = 8
    · cases o with
      | none =>
        exact ⟨f1 + 1, (none, 1 + k), by rw [ev, if_neg h1, if_neg h4, if_neg h5, if_neg h6, hx]; simp only; rw [if_neg h7, hf1 f1 (Nat.le_refl _)]; simp only; rw [if_pos h8]⟩
      | some q =>
        have hd := hkx f1 p (some q) k hp (hf1 f1 (Nat.le_refl _))
        obtain ⟨f2, r, hf2⟩ := star_tot hkx (hrep (.inr h8)) (s.length - q) q (1 + k) (Nat.le_refl _) hd.2.1 fun q' hq' hl => hall' q' (Nat.le_trans hd.1 hq') hl
        refine ⟨max f1 f2 + 1, r, ?_⟩
        rw [ev, if_neg h1, if_neg h4, if_neg h5, if_neg h6, hx]
        simp only
        rw [if_neg h7, hf1 _ (Nat.le_max_left f1 f2)]
        simp only
        rw [if_pos h8]
        exact starE_le (ev_le g s (Nat.le_max_right f1 f2)) x f2 (max f1 f2) q (1 + k) r (Nat.le_max_right f1 f2) hf2
    · exact ⟨f1 + 1, (lookE e.k p o, 1 + k), by rw [ev, if_neg h1, if_neg h4, if_neg h5, if_neg h6, hx]; simp only; rw [if_neg h7, hf1 f1 (Nat.le_refl _)]; simp only; rw [if_neg h8]⟩
theorem iw_top (mb : Ex → Bool) : ∀ e : Ex, e.iw mb (fun _ => true) = true
  | .mk k S t a c kids => by
    rw [Ex.iw]
    split
    · rfl
    · exact go mb (decide (k = 5)) kids
  where
  go (mb : Ex → Bool) (sq : Bool) : ∀ l : List Ex, iwL mb (fun _ => true) sq l = true
    | [] => by rw [iwL]
    | e :: r => by
      rw [iwL, iw_top mb e, if_neg (by simp)]
      split
      · rfl
      · exact go mb sq r
/-- A grammar that Well finds well. -/
structure WellG (g : Gr) (lf : List Fa) : Prop where
  may : Least fLe g.rules.length (mst g.rules) lf
  ok : BOk g
  nolp : ∀ r ∈ g.rules, r.2.lp (mbF g lf) = false
  all : ∃ lb, Least bLe g.rules.length (wst g.rules (mbF g lf)) lb ∧ ∀ x ∈ lb, x = true
/-- FORD: all comes to an end. -/
theorem tot_all {lf : List Fa} (hW : WellG g lf) : ∀ (d p : Nat), s.length - p ≤ d → p ≤ s.length → ∀ e : Ex, e.Ok (IsRule g) → e.lp (mbF g lf) = false → Tot g s e p := by
  intro d
  induction d with
  | zero =>
    intro p hd hp e ho hlp
    exact main hW p hp (fun e ho hlp q h1 h2 => by omega) e ho hlp
  | succ d ih =>
    intro p hd hp e ho hlp
    exact main hW p hp (fun e ho hlp q h1 h2 => ih q (by omega) h2 e ho hlp) e ho hlp
  where
  main {lf : List Fa} (hW : WellG g lf) (p : Nat) (hp : p ≤ s.length) (hfar : ∀ e : Ex, e.Ok (IsRule g) → e.lp (mbF g lf) = false → ∀ q, p < q → q ≤ s.length → Tot g s e q) (e : Ex) (ho : e.Ok (IsRule g)) (hlp : e.lp (mbF g lf) = false) : Tot g s e p := by
    have hmb : ∀ e : Ex, mbF g lf e = (e.may (ofL noF g.rules lf)).1 := fun e => rfl
    have hbodies : ∀ (i : Nat) (r : ByteArray × Ex), g.rules[i]? = some r → Tot g s r.2 p := by
      obtain ⟨lb, hlb, htr⟩ := hW.all
      let q : List Bool := g.rules.map fun r => @decide (Tot g s r.2 p) (Classical.propDecidable _)
      have hq : ∀ (i : Nat) (r : ByteArray × Ex), g.rules[i]? = some r → q[i]? = some (@decide (Tot g s r.2 p) (Classical.propDecidable _)) := fun i r hr => by
        show (List.map _ _)[i]? = _
        rw [List.getElem?_map, hr]; rfl
      have hpre : Pre bLe g.rules.length (wst g.rules (mbF g lf)) q := by
        refine ⟨by show (List.map _ _).length = _; rw [List.length_map], fun i y hy => ?_⟩
        have hil : i < g.rules.length := by
          have := (List.getElem?_eq_some_iff.1 hy).1
          have h2 : q.length = g.rules.length := by show (List.map _ _).length = _; rw [List.length_map]
          omega
        obtain ⟨r, hr⟩ : ∃ r, g.rules[i]? = some r := ⟨_, List.getElem?_eq_getElem hil⟩
        rw [hq i r hr] at hy
        have hy' := Option.some.inj hy
        subst hy'
        rw [wst_at hr]
        intro hw
        have hrm := List.mem_of_getElem? hr
        have := tot_here lf hW.may.pre hW.ok (mbF g lf) hmb (ofL false g.rules q) p hp (fun t ht hbt => by
          obtain ⟨j, r', hj, hr', hb⟩ := body_of ht
          refine ⟨r'.2, hb, ?_⟩
          unfold ofL at hbt
          rw [hj, show ((j : Nat) : Int).toNat = j from rfl, List.getD_eq_getElem?_getD, hq j r' hr'] at hbt
          exact @of_decide_eq_true _ (Classical.propDecidable _) hbt) hfar r.2.size r.2 (Nat.le_refl _) (hW.ok r hrm) (hW.nolp r hrm) hw
        exact @decide_eq_true _ (Classical.propDecidable _) this
      intro i r hr
      have hle := hlb.least q hpre
      have hil := (List.getElem?_eq_some_iff.1 hr).1
      obtain ⟨x, hx⟩ : ∃ x, lb[i]? = some x := ⟨_, List.getElem?_eq_getElem (by rw [hlb.pre.len]; exact hil)⟩
      have h1 := hle.2 i x _ hx (hq i r hr)
      exact @of_decide_eq_true _ (Classical.propDecidable _) (h1 (htr x (List.mem_of_getElem? hx)))
    exact tot_here lf hW.may.pre hW.ok (mbF g lf) hmb (fun _ => true) p hp (fun t ht _ => by
      obtain ⟨j, r', hj, hr', hb⟩ := body_of ht
      exact ⟨r'.2, hb, hbodies j r' hr'⟩) hfar e.size e (Nat.le_refl _) ho hlp (iw_top _ e)
end
theorem fiF_none {α : Type} (q : α → Bool) : ∀ (l : List α) (i : Nat), fiF q i l = none → ∀ x ∈ l, q x = false
  | [], _, _, x, hx => by cases hx
  | y :: l, i, h, x, hx => by
    rw [fiF] at h
    by_cases hy : q y = true
    · rw [if_pos hy] at h; cases h
    · rw [if_neg hy] at h
      rcases List.mem_cons.1 hx with rfl | hx
      · simpa using hy
      · exact fiF_none q l (i + 1) h x hx
/-- What Well finds well. -/
theorem wellG_of {g : Gr} {lf : List Fa} {n : Int} (hB : BOk g) (hL : Least fLe g.rules.length (mst g.rules) lf) (hN : WellN g lf n 0) : WellG g lf := by
  unfold WellN at hN
  cases hf : fiF (fun r : ByteArray × Ex => r.2.lp (mbF g lf)) 0 g.rules with
  | some i => rw [hf] at hN; exact absurd hN.2 (by decide)
  | none =>
    rw [hf] at hN
    obtain ⟨lb, hlb, h1⟩ := hN
    cases hb : fiF (fun x => x == false) 0 lb with
    | some i => rw [hb] at h1; exact absurd h1.2 (by decide)
    | none => exact ⟨hL, hB, fiF_none _ _ _ hf, lb, hlb, fun x hx => by simpa using fiF_none _ _ _ hb x hx⟩
/-- The outcome and the steps of each at each place. -/
theorem evs_ex {g : Gr} {s : List UInt8} {lf : List Fa} (hW : WellG g lf) {e : Ex} (ho : e.Ok (IsRule g)) (hlp : e.lp (mbF g lf) = false) {p : Nat} (hp : p ≤ s.length) : ∃ o n, Evs g s e p o n ∧ Does (e.may (ofL noF g.rules lf)) s.length p o := by
  obtain ⟨f, ⟨o, n⟩, h⟩ := tot_all (s := s) hW (s.length - p) p (Nat.le_refl _) hp e ho hlp
  exact ⟨o, n, ⟨f, h⟩, ev_does g s lf hW.may.pre hW.ok f e ho p o n hp h⟩
end Go.Proofs.Ytokdaapmejccbaa
