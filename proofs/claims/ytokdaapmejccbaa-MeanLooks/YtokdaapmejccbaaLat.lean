import Derived.Test.YtokdaapmejccbaaMay
namespace Go.Proofs.Ytokdaapmejccbaa
open Ex.may (mayL)
open Ex.iw (iwL)
set_option linter.unusedVariables false
/-- What is known of a rule is no more. -/
def bLe (a b : Bool) : Prop := a = true → b = true
def fLe (a b : Fa) : Prop := bLe a.1 b.1 ∧ bLe a.2.1 b.2.1 ∧ bLe a.2.2 b.2.2
def bRk (a : Bool) : Nat := if a then 1 else 0
def fRk (a : Fa) : Nat := bRk a.1 + bRk a.2.1 + bRk a.2.2
theorem bLat : Lat bLe bRk 1 := ⟨fun a h => h, fun a b c h k x => k (h x), fun a b h hne => by cases a <;> cases b <;> simp_all [bLe, bRk], fun a => by cases a <;> simp [bRk]⟩
theorem fLat : Lat fLe fRk 3 := ⟨fun a => ⟨fun h => h, fun h => h, fun h => h⟩, fun a b c h k => ⟨fun x => k.1 (h.1 x), fun x => k.2.1 (h.2.1 x), fun x => k.2.2 (h.2.2 x)⟩,
  fun a b h hne => by
    obtain ⟨a1, a2, a3⟩ := a
    obtain ⟨b1, b2, b3⟩ := b
    cases a1 <;> cases a2 <;> cases a3 <;> cases b1 <;> cases b2 <;> cases b3 <;> simp_all [fLe, bLe, fRk, bRk],
  fun a => by obtain ⟨a1, a2, a3⟩ := a; cases a1 <;> cases a2 <;> cases a3 <;> simp [fRk, bRk]⟩
def fSup (a b : Fa) : Fa := (a.1 || b.1, a.2.1 || b.2.1, a.2.2 || b.2.2)
theorem fSup_ok : Sup fLe fSup := ⟨fun a b => ⟨fun h => by simp [fSup, h], fun h => by simp [fSup, h], fun h => by simp [fSup, h]⟩, fun a b => ⟨fun h => by simp [fSup, h], fun h => by simp [fSup, h], fun h => by simp [fSup, h]⟩,
  fun a b c h k => ⟨fun x => by rcases Bool.or_eq_true_iff.1 x with x | x; exact h.1 x; exact k.1 x, fun x => by rcases Bool.or_eq_true_iff.1 x with x | x; exact h.2.1 x; exact k.2.1 x, fun x => by rcases Bool.or_eq_true_iff.1 x with x | x; exact h.2.2 x; exact k.2.2 x⟩⟩
theorem fLe_refl (a : Fa) : fLe a a := fLat.refl a
theorem noF_le (a : Fa) : fLe noF a := ⟨(fun h => by cases h), (fun h => by cases h), (fun h => by cases h)⟩
theorem no_le (a : Bool) : bLe false a := fun h => by cases h
theorem thenF_le {a b a' b' : Fa} (h : fLe a a') (k : fLe b b') : fLe (thenF a b) (thenF a' b') := by
  obtain ⟨a1, a2, a3⟩ := a
  obtain ⟨b1, b2, b3⟩ := b
  obtain ⟨c1, c2, c3⟩ := a'
  obtain ⟨d1, d2, d3⟩ := b'
  simp only [fLe, bLe, thenF, sucF, Bool.and_eq_true, Bool.or_eq_true] at *
  refine ⟨fun x => ⟨h.1 x.1, k.1 x.2⟩, fun x => ?_, fun x => ?_⟩
  · rcases x with ⟨x, y⟩ | ⟨x, y⟩
    · exact .inl ⟨h.2.1 x, y.imp (fun z => k.1 z) (fun z => k.2.1 z)⟩
    · exact .inr ⟨k.2.1 x, y.imp (fun z => h.1 z) (fun z => h.2.1 z)⟩
  · rcases x with x | ⟨x, y⟩
    · exact .inl (h.2.2 x)
    · exact .inr ⟨x.imp (fun z => h.1 z) (fun z => h.2.1 z), k.2.2 y⟩
theorem orF_le {a b a' b' : Fa} (h : fLe a a') (k : fLe b b') : fLe (orF a b) (orF a' b') := by
  obtain ⟨a1, a2, a3⟩ := a
  obtain ⟨b1, b2, b3⟩ := b
  obtain ⟨c1, c2, c3⟩ := a'
  obtain ⟨d1, d2, d3⟩ := b'
  simp only [fLe, bLe, orF, Bool.and_eq_true, Bool.or_eq_true] at *
  exact ⟨fun x => x.imp (fun z => h.1 z) (fun z => ⟨h.2.2 z.1, k.1 z.2⟩), fun x => x.imp (fun z => h.2.1 z) (fun z => ⟨h.2.2 z.1, k.2.1 z.2⟩), fun x => ⟨h.2.2 x.1, k.2.2 x.2⟩⟩
theorem againF_le {a a' : Fa} (h : fLe a a') : fLe (againF a) (againF a') := ⟨h.2.2, h.2.1, fun x => x⟩
theorem sucF_le {a a' : Fa} (h : fLe a a') : bLe (sucF a) (sucF a') := fun x => by
  unfold sucF at *
  rw [Bool.or_eq_true] at *
  exact x.imp (fun z => h.1 z) (fun z => h.2.1 z)
/-- Two lists of as many, each no more. -/
def FL : List Fa → List Fa → Prop
  | [], [] => True
  | a :: l, b :: m => fLe a b ∧ FL l m
  | _, _ => False
theorem foldF_le {two : Fa → Fa → Fa} (ht : ∀ a b a' b', fLe a a' → fLe b b' → fLe (two a b) (two a' b')) : ∀ l m : List Fa, FL l m → fLe (foldF two l) (foldF two m)
  | [], [], _ => by rw [foldF]; exact fLe_refl _
  | [], _ :: _, h => by cases h
  | _ :: _, [], h => by cases h
  | a :: l, b :: m, h => by
    rw [FL] at h
    rw [foldF, foldF]
    cases l with
    | nil =>
      cases m with
      | nil => simpa using h.1
      | cons y m => exact absurd h.2 (fun k => k)
    | cons x l =>
      cases m with
      | nil => exact absurd h.2 (fun k => k)
      | cons y m =>
        rw [if_neg (by simp), if_neg (by simp)]
        exact ht _ _ _ _ h.1 (foldF_le ht (x :: l) (y :: m) h.2)
theorem headD_le : ∀ l m : List Fa, FL l m → fLe (l.headD noF) (m.headD noF)
  | [], [], _ => fLe_refl _
  | [], _ :: _, h => by cases h
  | _ :: _, [], h => by cases h
  | a :: l, b :: m, h => by rw [FL] at h; exact h.1
theorem mayK_le (k : Int) {l m : List Fa} (h : FL l m) : fLe (mayK k l) (mayK k m) := by
  have h0 := headD_le l m h
  unfold mayK
  split
  · exact foldF_le (fun _ _ _ _ x y => thenF_le x y) l m h
  split
  · exact foldF_le (fun _ _ _ _ x y => orF_le x y) l m h
  split
  · exact againF_le h0
  split
  · exact thenF_le h0 (againF_le h0)
  split
  · exact orF_le h0 (fLe_refl _)
  split
  · exact ⟨sucF_le h0, fun x => x, h0.2.2⟩
  split
  · exact ⟨h0.2.2, fun x => x, sucF_le h0⟩
  · exact fLe_refl _
theorem may_le {R R' : ByteArray → Fa} (hR : ∀ s, fLe (R s) (R' s)) : ∀ e : Ex, fLe (e.may R) (e.may R')
  | .mk k S t a c kids => by
    rw [Ex.may, Ex.may]
    split
    · exact fLe_refl _
    split
    · exact fLe_refl _
    split
    · exact fLe_refl _
    split
    · exact hR _
    · exact mayK_le k (go hR kids)
  where
  go {R R' : ByteArray → Fa} (hR : ∀ s, fLe (R s) (R' s)) : ∀ l : List Ex, FL (mayL R l) (mayL R' l)
    | [] => by rw [mayL, mayL, FL]; trivial
    | e :: r => by rw [mayL, mayL, FL]; exact ⟨may_le hR e, go hR r⟩
theorem iw_le (mb : Ex → Bool) {R R' : ByteArray → Bool} (hR : ∀ s, bLe (R s) (R' s)) : ∀ e : Ex, bLe (e.iw mb R) (e.iw mb R')
  | .mk k S t a c kids => by
    rw [Ex.iw, Ex.iw]
    split
    · exact hR _
    · exact go mb hR _ kids
  where
  go (mb : Ex → Bool) {R R' : ByteArray → Bool} (hR : ∀ s, bLe (R s) (R' s)) (sq : Bool) : ∀ l : List Ex, bLe (iwL mb R sq l) (iwL mb R' sq l)
    | [] => by rw [iwL, iwL]; exact fun x => x
    | e :: r => by
      rw [iwL, iwL]
      intro x
      split at x
      · cases x
      · rename_i h1
        have h2 := iw_le mb hR e (by simpa using h1)
        rw [if_neg (by rw [h2]; simp)]
        split
        · rfl
        · rename_i h3
          rw [if_neg h3] at x
          exact go mb hR sq r x
/-- What a list says of a name. -/
def ofL {α : Type} (bot : α) (all : List (ByteArray × Ex)) (l : List α) (s : ByteArray) : α := l.getD (fnd all s).toNat bot
theorem ofL_le {α : Type} {le : α → α → Prop} {rk : α → Nat} {m : Nat} (L : Lat le rk m) (bot : α) (all : List (ByteArray × Ex)) {l l' : List α} (h : LeL le l l') (s : ByteArray) : le (ofL bot all l s) (ofL bot all l' s) := by
  unfold ofL
  rw [List.getD_eq_getElem?_getD, List.getD_eq_getElem?_getD]
  by_cases hi : (fnd all s).toNat < l.length
  · obtain ⟨x, hx⟩ : ∃ x, l[(fnd all s).toNat]? = some x := ⟨_, List.getElem?_eq_getElem hi⟩
    obtain ⟨y, hy⟩ : ∃ y, l'[(fnd all s).toNat]? = some y := ⟨_, List.getElem?_eq_getElem (by rw [← h.1]; exact hi)⟩
    rw [hx, hy]
    exact h.2 _ x y hx hy
  · have := h.1
    rw [List.getElem?_eq_none (by omega), List.getElem?_eq_none (by omega)]
    exact L.refl _
/-- What follows for rule i of what is known. -/
def mst (all : List (ByteArray × Ex)) (l : List Fa) (i : Nat) : Fa := match all[i]? with | none => noF | some r => r.2.may (ofL noF all l)
def wst (all : List (ByteArray × Ex)) (mb : Ex → Bool) (l : List Bool) (i : Nat) : Bool := match all[i]? with | none => false | some r => r.2.iw mb (ofL false all l)
theorem mst_at {all : List (ByteArray × Ex)} {l : List Fa} {i : Nat} {r : ByteArray × Ex} (h : all[i]? = some r) : mst all l i = r.2.may (ofL noF all l) := by unfold mst; rw [h]
theorem wst_at {all : List (ByteArray × Ex)} {mb : Ex → Bool} {l : List Bool} {i : Nat} {r : ByteArray × Ex} (h : all[i]? = some r) : wst all mb l i = r.2.iw mb (ofL false all l) := by unfold wst; rw [h]
theorem mst_mono (all : List (ByteArray × Ex)) : Mono fLe all.length (mst all) := fun l l' i _ h hi => by
  obtain ⟨r, hr⟩ : ∃ r, all[i]? = some r := ⟨_, List.getElem?_eq_getElem hi⟩
  rw [mst_at hr, mst_at hr]
  exact may_le (fun s => ofL_le fLat noF all h s) r.2
theorem wst_mono (all : List (ByteArray × Ex)) (mb : Ex → Bool) : Mono bLe all.length (wst all mb) := fun l l' i _ h hi => by
  obtain ⟨r, hr⟩ : ∃ r, all[i]? = some r := ⟨_, List.getElem?_eq_getElem hi⟩
  rw [wst_at hr, wst_at hr]
  exact iw_le mb (fun s => ofL_le bLat false all h s) r.2
end Go.Proofs.Ytokdaapmejccbaa
