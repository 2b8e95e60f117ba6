import Derived.Test.YtbeohmcmphebhaaDoorXTk
import Derived.Test.YtbeohmcmphebhaaDoorXApartB
namespace Go.Proofs.YtbeohmcmphebhaaDoor
/-! How a text is read. What is told where it can't be: the text from there on. -/
abbrev Rs := Except (List UInt8) (Ex × Tk)
def thn {α β : Type} (x : Except (List UInt8) α) (f : α → Except (List UInt8) β) : Except (List UInt8) β :=
  match x with
  | .ok a => f a
  | .error s => .error s
theorem thn_ok {α β : Type} (a : α) (f : α → Except (List UInt8) β) : thn (.ok a) f = f a := rfl
theorem thn_error {α β : Type} (s : List UInt8) (f : α → Except (List UInt8) β) : thn (.error s) f = .error s := rfl
def take (t : Tk) : Except (List UInt8) Tk := if (tok t.r).k = 4 then .error (tok t.r).s else .ok (tok t.r)
def begins (k : UInt8) : Bool := k == 1 || k == 40 || k == 38 || k == 33
def kindB (k : UInt8) : Int := if k = 63 then 9 else if k = 42 then 7 else if k = 43 then 8 else 0
def seqL (pre : Tk → Rs) : Nat → List Ex → Tk → Rs
  | 0, l, t => .ok (gath 5 l, t)
  | m + 1, l, t => if begins t.k then thn (pre t) fun x => seqL pre m (l ++ [x.1]) x.2 else .ok (gath 5 l, t)
def seqP (pre : Tk → Rs) (t : Tk) : Rs := thn (pre t) fun x => seqL pre x.2.s.length [x.1] x.2
def altL (pre : Tk → Rs) : Nat → List Ex → Tk → Rs
  | 0, l, t => .ok (gath 6 l, t)
  | m + 1, l, t => if t.k = 47 then thn (take t) fun u => thn (seqP pre u) fun x => altL pre m (l ++ [x.1]) x.2 else .ok (gath 6 l, t)
def altP (pre : Tk → Rs) (t : Tk) : Rs := thn (seqP pre t) fun x => altL pre x.2.s.length [x.1] x.2
def postL : Nat → Ex → Tk → Rs
  | 0, e, t => .ok (e, t)
  | m + 1, e, t => if kindB t.k = 0 then .ok (e, t) else thn (take t) fun u => postL m (nd (kindB t.k) [e]) u
def primP (pre : Tk → Rs) (t : Tk) : Rs :=
  if t.k = 1 then thn (take t) fun u => .ok (t.e, u)
  else if t.k = 40 then thn (take t) fun u =>
    if u.k = 41 then thn (take u) fun v => .ok (nd 1 [], v)
    else thn (altP pre u) fun x => if x.2.k = 41 then thn (take x.2) fun v => .ok (x.1, v) else .error x.2.s
  else .error t.s
def preP : Nat → Tk → Rs
  | 0, t => .error t.s
  | n + 1, t =>
    if t.k = 38 then thn (take t) fun u => thn (preP n u) fun x => .ok (nd 10 [x.1], x.2)
    else if t.k = 33 then thn (take t) fun u => thn (preP n u) fun x => .ok (nd 11 [x.1], x.2)
    else thn (primP (preP n) t) fun x => postL x.2.s.length x.1 x.2
/-- What a text says, or the text from what can't stand on. -/
def parse (l : List UInt8) : Except (List UInt8) Ex :=
  if (tok l).k = 4 then .error (tok l).s
  else thn (altP (preP (l.length + 1)) (tok l)) fun x => if x.2.k = 0 then .ok x.1 else .error x.2.s
/-- Has no place. -/
def Bare (e : Ex) : Prop := e.er = e
theorem bare_nd (k : Int) (l : List Ex) (h : ∀ x ∈ l, Bare x) : Bare (nd k l) := by
  unfold Bare nd
  rw [er_eq]
  simp only [Ex.k, Ex.S, Ex.t, Ex.kids]
  congr 1
  exact (List.map_congr_left h).trans (List.map_id _)
theorem bare_gath (k : Int) (l : List Ex) (h : ∀ x ∈ l, Bare x) : Bare (gath k l) := by
  unfold gath
  split
  · rename_i hl
    match l, hl with
    | [x], _ => exact h x List.mem_cons_self
  · exact bare_nd k l h
theorem bare_leafS (S : BitVec 256) : Bare (lfS S) := by unfold Bare lfS; rw [er_eq]; rfl
theorem bare_leafT (k : Int) (t : List UInt8) : Bare (lfT k t) := by unfold Bare lfT; rw [er_eq]; rfl
theorem bare_one (k : Int) : Bare (nd k []) := bare_nd k [] (fun _ h => by cases h)
theorem leafAt_bare (l : List UInt8) (x : Ex × Nat) (h : leafAt l = some x) : Bare x.1 := by
  unfold leafAt at h
  split at h
  · obtain ⟨y, hy, rfl⟩ := Option.map_eq_some_iff.1 h
    show Bare (if y.1 = [] then _ else _)
    split
    · exact bare_one 1
    · exact bare_leafT _ _
  · split at h
    · obtain ⟨y, hy, rfl⟩ := Option.map_eq_some_iff.1 h
      exact bare_leafS _
    · split at h
      · cases h; exact bare_leafS _
      · split at h
        · cases h; exact bare_leafT _ _
        · cases h
theorem tokB_bare (s : List UInt8) : Bare (tokB s).e := by
  unfold tokB
  split
  · exact bare_one 0
  split
  · exact bare_one 0
  split
  · exact bare_one 0
  split
  · rename_i x hx; exact leafAt_bare s x hx
  · exact bare_one 0
theorem tokS_bare (s : List UInt8) : Bare (tokS s).e := by unfold tokS; rw [arr_e]; exact tokB_bare s
theorem Tk.of.bare {t : Tk} {T : List UInt8} (h : t.of T) : Bare t.e := by rw [h.1]; exact tokS_bare _
/-- What may be told of what was read from a token on. -/
def Fine (T : List UInt8) (n : Nat) (R : Rs) : Prop :=
  match R with
  | .ok x => x.2.of T ∧ x.2.s.length < n ∧ Bare x.1
  | .error s => s <:+ T
theorem take_fine {t : Tk} {T : List UInt8} (h : t.of T) (h0 : t.k ≠ 0) : match take t with | .ok u => u.of T ∧ u.s.length < t.s.length | .error s => s <:+ T := by
  have hr := h.r
  have hs : (tok t.r).s <:+ t.r := by unfold tok; rw [tokS_s]; exact skip_suf _
  unfold take
  split
  · rename_i h1
    split at h1
    · cases h1
    · rename_i h3
      cases h1
      exact ⟨tok_of _ _ hr.1 h3, Nat.lt_of_le_of_lt hs.length_le (hr.2.2 h0)⟩
  · rename_i h1
    split at h1
    · cases h1; exact hs.trans hr.1
    · cases h1
theorem take_ok {t u : Tk} {T : List UInt8} (h : t.of T) (h0 : t.k ≠ 0) (hu : take t = .ok u) : u.of T ∧ u.s.length < t.s.length := by
  have := take_fine h h0; rw [hu] at this; exact this
theorem take_err {t : Tk} {T s : List UInt8} (h : t.of T) (h0 : t.k ≠ 0) (hu : take t = .error s) : s <:+ T := by
  have := take_fine h h0; rw [hu] at this; exact this
theorem Fine.mono {T : List UInt8} {m n : Nat} {R : Rs} (h : Fine T m R) (hm : m ≤ n) : Fine T n R := by
  unfold Fine at h ⊢
  split
  · exact ⟨h.1, Nat.lt_of_lt_of_le h.2.1 hm, h.2.2⟩
  · exact h
/-- A way of reading that goes on. -/
def Goes (T : List UInt8) (n : Nat) (pre : Tk → Rs) : Prop := ∀ t, t.of T → t.s.length < n → Fine T t.s.length (pre t)
theorem begins_ne {k : UInt8} (h : begins k = true) : k ≠ 0 := by rintro rfl; revert h; decide
theorem seqL_fine {T : List UInt8} {n : Nat} {pre : Tk → Rs} (hg : Goes T n pre) : ∀ (m : Nat) (l : List Ex) (t : Tk), t.of T → t.s.length < n → (∀ x ∈ l, Bare x) → Fine T (t.s.length + 1) (seqL pre m l t) := by
  intro m
  induction m with
  | zero => intro l t ht hn hl; exact ⟨ht, Nat.lt_succ_self _, bare_gath 5 l hl⟩
  | succ m ih =>
    intro l t ht hn hl
    rw [seqL]
    split
    · have h1 := hg t ht hn
      cases hp : pre t with
      | error s => rw [hp] at h1; rw [thn_error]; exact h1
      | ok x =>
        rw [hp] at h1
        rw [thn_ok]
        refine (ih (l ++ [x.1]) x.2 h1.1 (by have := h1.2.1; omega) (fun y hy => ?_)).mono (by have := h1.2.1; omega)
        rcases List.mem_append.1 hy with hy | hy
        · exact hl y hy
        · rw [List.mem_singleton.1 hy]; exact h1.2.2
    · exact ⟨ht, Nat.lt_succ_self _, bare_gath 5 l hl⟩
theorem seqP_fine {T : List UInt8} {n : Nat} {pre : Tk → Rs} (hg : Goes T n pre) : Goes T n (seqP pre) := by
  intro t ht hn
  have h1 := hg t ht hn
  unfold seqP
  cases hp : pre t with
  | error s => rw [hp] at h1; rw [thn_error]; exact h1
  | ok x =>
    rw [hp] at h1
    rw [thn_ok]
    exact (seqL_fine hg _ [x.1] x.2 h1.1 (by have := h1.2.1; omega) (fun y hy => by rw [List.mem_singleton.1 hy]; exact h1.2.2)).mono (by have := h1.2.1; omega)
theorem altL_fine {T : List UInt8} {n : Nat} {pre : Tk → Rs} (hg : Goes T n pre) : ∀ (m : Nat) (l : List Ex) (t : Tk), t.of T → t.s.length < n → (∀ x ∈ l, Bare x) → Fine T (t.s.length + 1) (altL pre m l t) := by
  intro m
  induction m with
  | zero => intro l t ht hn hl; exact ⟨ht, Nat.lt_succ_self _, bare_gath 6 l hl⟩
  | succ m ih =>
    intro l t ht hn hl
    rw [altL]
    split
    · rename_i h47
      have h0 : t.k ≠ 0 := by rw [h47]; decide
      cases hu : take t with
      | error s => rw [thn_error]; exact take_err ht h0 hu
      | ok u =>
        obtain ⟨hu1, hu2⟩ := take_ok ht h0 hu
        rw [thn_ok]
        have h1 := seqP_fine hg u hu1 (by omega)
        cases hp : seqP pre u with
        | error s => rw [hp] at h1; rw [thn_error]; exact h1
        | ok x =>
          rw [hp] at h1
          rw [thn_ok]
          refine (ih (l ++ [x.1]) x.2 h1.1 (by have := h1.2.1; omega) (fun y hy => ?_)).mono (by have := h1.2.1; omega)
          rcases List.mem_append.1 hy with hy | hy
          · exact hl y hy
          · rw [List.mem_singleton.1 hy]; exact h1.2.2
    · exact ⟨ht, Nat.lt_succ_self _, bare_gath 6 l hl⟩
theorem altP_fine {T : List UInt8} {n : Nat} {pre : Tk → Rs} (hg : Goes T n pre) : Goes T n (altP pre) := by
  intro t ht hn
  have h1 := seqP_fine hg t ht hn
  unfold altP
  cases hp : seqP pre t with
  | error s => rw [hp] at h1; rw [thn_error]; exact h1
  | ok x =>
    rw [hp] at h1
    rw [thn_ok]
    exact (altL_fine hg _ [x.1] x.2 h1.1 (by have := h1.2.1; omega) (fun y hy => by rw [List.mem_singleton.1 hy]; exact h1.2.2)).mono (by have := h1.2.1; omega)
theorem kindB_ne {k : UInt8} (h : kindB k ≠ 0) : k ≠ 0 := by rintro rfl; exact h rfl
theorem postL_fine {T : List UInt8} : ∀ (m : Nat) (e : Ex) (t : Tk), t.of T → Bare e → Fine T (t.s.length + 1) (postL m e t) := by
  intro m
  induction m with
  | zero => intro e t ht he; exact ⟨ht, Nat.lt_succ_self _, he⟩
  | succ m ih =>
    intro e t ht he
    rw [postL]
    split
    · exact ⟨ht, Nat.lt_succ_self _, he⟩
    · rename_i hk
      have h0 := kindB_ne hk
      cases hu : take t with
      | error s => rw [thn_error]; exact take_err ht h0 hu
      | ok u =>
        obtain ⟨hu1, hu2⟩ := take_ok ht h0 hu
        rw [thn_ok]
        exact (ih _ u hu1 (bare_nd _ _ (fun x hx => by rw [List.mem_singleton.1 hx]; exact he))).mono (by omega)
theorem primP_fine {T : List UInt8} {n : Nat} {pre : Tk → Rs} (hg : Goes T n pre) (t : Tk) (ht : t.of T) (hn : t.s.length ≤ n) : Fine T t.s.length (primP pre t) := by
  unfold primP
  split
  · rename_i h1
    have h0 : t.k ≠ 0 := by rw [h1]; decide
    cases hu : take t with
    | error s => rw [thn_error]; exact take_err ht h0 hu
    | ok u =>
      obtain ⟨hu1, hu2⟩ := take_ok ht h0 hu
      rw [thn_ok]
      exact ⟨hu1, hu2, ht.bare⟩
  split
  · rename_i h1
    have h0 : t.k ≠ 0 := by rw [h1]; decide
    cases hu : take t with
    | error s => rw [thn_error]; exact take_err ht h0 hu
    | ok u =>
      obtain ⟨hu1, hu2⟩ := take_ok ht h0 hu
      rw [thn_ok]
      split
      · rename_i h41
        have hu0 : u.k ≠ 0 := by rw [h41]; decide
        cases hv : take u with
        | error s => rw [thn_error]; exact take_err hu1 hu0 hv
        | ok v =>
          obtain ⟨hv1, hv2⟩ := take_ok hu1 hu0 hv
          rw [thn_ok]
          exact ⟨hv1, by show v.s.length < _; omega, bare_one 1⟩
      · have h2 := altP_fine hg u hu1 (by omega)
        cases hp : altP pre u with
        | error s => rw [hp] at h2; rw [thn_error]; exact h2
        | ok x =>
          rw [hp] at h2
          obtain ⟨x1, x2, x3⟩ := h2
          rw [thn_ok]
          split
          · rename_i h41
            have hx0 : x.2.k ≠ 0 := by rw [h41]; decide
            cases hv : take x.2 with
            | error s => rw [thn_error]; exact take_err x1 hx0 hv
            | ok v =>
              obtain ⟨hv1, hv2⟩ := take_ok x1 hx0 hv
              rw [thn_ok]
              exact ⟨hv1, by show v.s.length < _; omega, x3⟩
          · exact x1.2.1
  · exact ht.2.1
theorem preP_fine {T : List UInt8} : ∀ (n : Nat), Goes T n (preP n) := by
  intro n
  induction n with
  | zero => intro t _ h; omega
  | succ n ih =>
    intro t ht hn
    rw [preP]
    have pref : ∀ k : Int, t.k ≠ 0 → Fine T t.s.length (thn (take t) fun u => thn (preP n u) fun x => .ok (nd k [x.1], x.2)) := by
      intro k h0
      cases hu : take t with
      | error s => rw [thn_error]; exact take_err ht h0 hu
      | ok u =>
        obtain ⟨hu1, hu2⟩ := take_ok ht h0 hu
        rw [thn_ok]
        have h2 := ih u hu1 (by omega)
        cases hp : preP n u with
        | error s => rw [hp] at h2; rw [thn_error]; exact h2
        | ok x =>
          rw [hp] at h2
          rw [thn_ok]
          exact ⟨h2.1, by have := h2.2.1; show x.2.s.length < _; omega, bare_nd _ _ (fun y hy => by rw [List.mem_singleton.1 hy]; exact h2.2.2)⟩
    split
    · rename_i h; exact pref 10 (by rw [h]; decide)
    split
    · rename_i h; exact pref 11 (by rw [h]; decide)
    · have h2 := primP_fine ih t ht (by omega)
      cases hp : primP (preP n) t with
      | error s => rw [hp] at h2; rw [thn_error]; exact h2
      | ok x =>
        rw [hp] at h2
        rw [thn_ok]
        exact (postL_fine _ x.1 x.2 h2.1 h2.2.2).mono (by have := h2.2.1; omega)
end Go.Proofs.YtbeohmcmphebhaaDoor
