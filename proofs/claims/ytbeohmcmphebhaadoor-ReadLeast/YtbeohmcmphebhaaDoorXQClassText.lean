import Derived.Test.YtbeohmcmphebhaaDoorXQOwn
import Derived.Test.YtbeohmcmphebhaaDoorXUOps
namespace Go.Proofs.YtbeohmcmphebhaaDoor
open Go

/-- The signs that have a stroke ahead in a class. -/
def cg : List UInt8 := [91, 93, 45, 94, 92]
def csign (k : Nat) : List UInt8 := sign 33 cg (UInt8.ofNat k)
/-- The end of the run that k is in, n steps at most. -/
def eorN (S : BitVec 256) : Nat → Nat → Nat
  | k, 0 => k
  | k, n + 1 => if inS S (k + 1) then eorN S (k + 1) n else k
def eor (S : BitVec 256) (k : Nat) : Nat := eorN S k (255 - k)
def start (S : BitVec 256) (k : Nat) : Bool := inS S k && (decide (k = 0) || !inS S (k - 1))
def run (a b : Nat) : List UInt8 := csign a ++ ((if a + 1 < b then [45] else []) ++ (if a < b then csign b else []))
def clsTo (S : BitVec 256) (k : Nat) : List UInt8 := ((List.range k).filter (start S)).flatMap fun a => run a (eor S a)
def cls (S : BitVec 256) : List UInt8 := 91 :: (clsTo S 256 ++ [93])

theorem eor_yes (S : BitVec 256) (k : Nat) (hk : k < 255) (h : inS S (k + 1) = true) : eor S k = eor S (k + 1) := by
  unfold eor
  rw [show 255 - k = (255 - (k + 1)) + 1 from by omega, eorN, if_pos h]
theorem eor_no (S : BitVec 256) (k : Nat) (hk : k < 255) (h : inS S (k + 1) = false) : eor S k = k := by
  unfold eor
  rw [show 255 - k = (254 - k) + 1 from by omega, eorN, if_neg (by simp [h])]
theorem eor_end (S : BitVec 256) (k : Nat) (hk : 255 ≤ k) : eor S k = k := by
  unfold eor
  rw [show 255 - k = 0 from by omega, eorN]
theorem eor_all (S : BitVec 256) (n k : Nat) (h : k + n = 255) : k ≤ eor S k ∧ eor S k ≤ 255 ∧ (∀ i, k < i → i ≤ eor S k → inS S i = true) ∧ (eor S k = 255 ∨ inS S (eor S k + 1) = false) := by
  induction n generalizing k with
  | zero =>
    rw [eor_end S k (by omega)]
    exact ⟨Nat.le_refl _, by omega, fun i h1 h2 => by omega, .inl (by omega)⟩
  | succ n ih =>
    cases hi : inS S (k + 1)
    · rw [eor_no S k (by omega) hi]
      exact ⟨Nat.le_refl _, by omega, fun i h1 h2 => by omega, .inr hi⟩
    · rw [eor_yes S k (by omega) hi]
      obtain ⟨h1, h2, h3, h4⟩ := ih (k + 1) (by omega)
      refine ⟨by omega, h2, fun i g1 g2 => ?_, h4⟩
      by_cases e : i = k + 1
      · rw [e]; exact hi
      · exact h3 i (by omega) g2
theorem eor_le (S : BitVec 256) (k : Nat) (hk : k < 256) : k ≤ eor S k ∧ eor S k ≤ 255 ∧ (∀ i, k < i → i ≤ eor S k → inS S i = true) ∧ (eor S k = 255 ∨ inS S (eor S k + 1) = false) := eor_all S (255 - k) k (by omega)
theorem clsTo_succ (S : BitVec 256) (k : Nat) : clsTo S (k + 1) = clsTo S k ++ (if start S k then run k (eor S k) else []) := by
  unfold clsTo
  rw [List.range_succ, List.filter_append, List.flatMap_append]
  congr 1
  cases h : start S k <;> simp [h]
theorem clsTo_yes (S : BitVec 256) (k : Nat) (h : start S k = true) : clsTo S (k + 1) = clsTo S k ++ run k (eor S k) := by rw [clsTo_succ, if_pos h]
theorem clsTo_no (S : BitVec 256) (k : Nat) (h : start S k = false) : clsTo S (k + 1) = clsTo S k := by rw [clsTo_succ, if_neg (by simp [h])]; simp
theorem clsTo_same (S : BitVec 256) (a n : Nat) (h : ∀ i, a ≤ i → i < a + n → start S i = false) : clsTo S (a + n) = clsTo S a := by
  induction n with
  | zero => rfl
  | succ n ih => rw [← Nat.add_assoc, clsTo_no S _ (h (a + n) (by omega) (by omega)), ih (fun i h1 h2 => h i h1 (by omega))]
theorem start_out (S : BitVec 256) (i : Nat) (h : inS S i = false) : start S i = false := by simp [start, h]
theorem start_in (S : BitVec 256) (i : Nat) (h0 : i ≠ 0) (h : inS S (i - 1) = true) : start S i = false := by simp [start, h, h0]
/-- Behind a run all starts that lie in it are none. -/
theorem clsTo_run (S : BitVec 256) (k : Nat) (hk : k < 256) (hin : inS S k = true) (hs : start S k = true) : clsTo S (eor S k + 1) = clsTo S k ++ run k (eor S k) := by
  obtain ⟨h1, h2, h3, h4⟩ := eor_le S k hk
  have := clsTo_same S (k + 1) (eor S k - k) (fun i g1 g2 => start_in S i (by omega) (by
    by_cases e : i - 1 = k
    · rw [e]; exact hin
    · exact h3 (i - 1) (by omega) (by omega)))
  rw [show k + 1 + (eor S k - k) = eor S k + 1 from by omega] at this
  rw [this, clsTo_yes S k hs]
theorem run_len (a b : Nat) : (run a b).length ≤ 9 := by
  have h1 := sign_len 33 cg (UInt8.ofNat a)
  have h2 := sign_len 33 cg (UInt8.ofNat b)
  unfold run csign
  rw [List.length_append, List.length_append]
  split <;> split <;> simp <;> omega
theorem clsTo_len (S : BitVec 256) (k : Nat) : (clsTo S k).length ≤ 9 * k := by
  induction k with
  | zero => simp [clsTo]
  | succ k ih =>
    rw [clsTo_succ, List.length_append]
    have := run_len k (eor S k)
    split
    · omega
    · simp; omega
theorem cls_len (S : BitVec 256) : 2 ≤ (cls S).length ∧ (cls S).length ≤ 2306 := by
  have := clsTo_len S 256
  simp only [cls, List.length_cons, List.length_append, List.length_nil]
  omega

/-- A member at the beginning of l: its first and last byte, and how many bytes say it; 0: none. -/
def memberAt (l : List UInt8) : Nat × Nat × Nat :=
  if (signAt cg l).2 = 0 then (0, 0, 0)
  else if ¬ (l.drop (signAt cg l).2).headD 0 = 45 ∨ (l.drop (signAt cg l).2).tail.headD 0 = 93 then ((signAt cg l).1, (signAt cg l).1, (signAt cg l).2)
  else if (signAt cg (l.drop ((signAt cg l).2 + 1))).2 = 0 then (0, 0, 0)
  else ((signAt cg l).1, (signAt cg (l.drop ((signAt cg l).2 + 1))).1, (signAt cg l).2 + 1 + (signAt cg (l.drop ((signAt cg l).2 + 1))).2)
theorem memberAt_lt (l : List UInt8) : (memberAt l).1 < 256 ∧ (memberAt l).2.1 < 256 ∧ (memberAt l).2.2 ≤ l.length := by
  unfold memberAt
  have h1 := signAt_lt cg l
  have h2 := signAt_lt cg (l.drop ((signAt cg l).2 + 1))
  rw [List.length_drop] at h2
  split
  · simp
  · split
    · exact ⟨h1.1, h1.1, h1.2⟩
    · split
      · simp
      · rename_i g1 g2 g3
        refine ⟨h1.1, h2.1, ?_⟩
        show _ + 1 + _ ≤ _
        omega
/-- The members from here on, m bytes at most: their set, and how much is left where the class ends. -/
def uclF : Nat → List UInt8 → BitVec 256 → Option (BitVec 256 × Nat)
  | 0, _, _ => none
  | m + 1, rest, acc =>
    match rest with
    | [] => none
    | a :: r => if a = 93 then some (acc, r.length + 1) else if (memberAt (a :: r)).2.2 = 0 ∨ (memberAt (a :: r)).2.1 < (memberAt (a :: r)).1 then none
      else uclF m ((a :: r).drop (memberAt (a :: r)).2.2) (acc ||| rng (memberAt (a :: r)).1 (memberAt (a :: r)).2.1)
theorem uclF_any : ∀ (m k : Nat) (rest : List UInt8) (acc : BitVec 256), rest.length ≤ m → rest.length ≤ k → uclF m rest acc = uclF k rest acc := by
  intro m
  induction m with
  | zero =>
    intro k rest acc hm _
    have e : rest = [] := List.eq_nil_of_length_eq_zero (by omega)
    subst e
    cases k <;> rfl
  | succ m ih =>
    intro k rest acc hm hk
    cases rest with
    | nil => cases k <;> rfl
    | cons a r =>
      cases k with
      | zero => simp at hk
      | succ k =>
        rw [List.length_cons] at hm hk
        show (if a = 93 then _ else if _ then _ else _) = (if a = 93 then _ else if _ then _ else _)
        split
        · rfl
        · split
          · rfl
          · rename_i h0
            have h1 : (memberAt (a :: r)).2.2 ≠ 0 := fun h => h0 (.inl h)
            exact ih k _ _ (by rw [List.length_drop, List.length_cons]; omega) (by rw [List.length_drop, List.length_cons]; omega)
/-- The members from here on: their set, and how much is left where the class ends. -/
def ucl (rest : List UInt8) (acc : BitVec 256) : Option (BitVec 256 × Nat) := uclF rest.length rest acc
theorem ucl_cons (a : UInt8) (r : List UInt8) (acc : BitVec 256) : ucl (a :: r) acc = if a = 93 then some (acc, r.length + 1) else if (memberAt (a :: r)).2.2 = 0 ∨ (memberAt (a :: r)).2.1 < (memberAt (a :: r)).1 then none
      else uclF r.length ((a :: r).drop (memberAt (a :: r)).2.2) (acc ||| rng (memberAt (a :: r)).1 (memberAt (a :: r)).2.1) := rfl
theorem ucl_nil (acc : BitVec 256) : ucl [] acc = none := rfl
theorem ucl_end (r : List UInt8) (acc : BitVec 256) : ucl (93 :: r) acc = some (acc, r.length + 1) := by rw [ucl_cons, if_pos rfl]
theorem ucl_bad (a : UInt8) (r : List UInt8) (acc : BitVec 256) (h : a ≠ 93) (hb : (memberAt (a :: r)).2.2 = 0 ∨ (memberAt (a :: r)).2.1 < (memberAt (a :: r)).1) : ucl (a :: r) acc = none := by rw [ucl_cons, if_neg h, if_pos hb]
theorem ucl_on (a : UInt8) (r : List UInt8) (acc : BitVec 256) (h : a ≠ 93) (hb : ¬ ((memberAt (a :: r)).2.2 = 0 ∨ (memberAt (a :: r)).2.1 < (memberAt (a :: r)).1)) :
    ucl (a :: r) acc = ucl ((a :: r).drop (memberAt (a :: r)).2.2) (acc ||| rng (memberAt (a :: r)).1 (memberAt (a :: r)).2.1) := by
  have h1 : (memberAt (a :: r)).2.2 ≠ 0 := fun h => hb (.inl h)
  rw [ucl_cons, if_neg h, if_neg hb]
  exact uclF_any _ _ _ _ (by rw [List.length_drop, List.length_cons]; omega) (Nat.le_refl _)
/-- What stands behind [ and, it may be, ^. -/
def within (l : List UInt8) : List UInt8 := if (l.drop 1).headD 0 = 94 then l.drop 2 else l.drop 1
def others (l : List UInt8) : Bool := decide ((l.drop 1).headD 0 = 94)
/-- A class at the beginning of l. -/
def unclass (l : List UInt8) : Option (BitVec 256 × Nat) :=
  if l.headD 0 = 91 then (ucl (within l) 0#256).map fun x => (if others l then ~~~x.1 else x.1, l.length - x.2 + 1) else none
def kS (o : Option (BitVec 256 × Nat)) : BitVec 256 := match o with | some x => x.1 | none => 0#256
def kN (o : Option (BitVec 256 × Nat)) : Int := match o with | some x => x.2 | none => 0
def kE (o : Option (BitVec 256 × Nat)) : Int := match o with | some _ => 0 | none => 4

/-! What is written is read. -/
theorem cg_ok (b : UInt8) (h : gd cg b = true) : gd cg b = true := h
theorem csign_back (k : Nat) (hk : k < 256) (r : List UInt8) : signAt cg (csign k ++ r) = (k, (csign k).length) := by
  have := sign_back 33 cg cg (UInt8.ofNat k) r (fun h => h) (by decide) ⟨by decide, by decide, by decide⟩
  unfold csign
  rw [this]
  congr 1
  simp; omega
theorem csign_head (k : Nat) (q : UInt8) (hq : gd cg q = true) (h92 : q ≠ 92) : ∃ a r, csign k = a :: r ∧ a ≠ q := sign_head 33 cg (UInt8.ofNat k) q hq h92
theorem csign_pos (k : Nat) : 0 < (csign k).length := sign_ne 33 cg _
theorem csign_first (k : Nat) : ∃ a r, csign k = a :: r ∧ a ≠ 45 ∧ a ≠ 93 ∧ a ≠ 94 := by
  obtain ⟨a, r, e, h1⟩ := csign_head k 45 (by decide) (by decide)
  obtain ⟨a2, r2, e2, h2⟩ := csign_head k 93 (by decide) (by decide)
  obtain ⟨a3, r3, e3, h3⟩ := csign_head k 94 (by decide) (by decide)
  have x2 : a = a2 := (List.cons.inj (e.symm.trans e2)).1
  have x3 : a = a3 := (List.cons.inj (e.symm.trans e3)).1
  exact ⟨a, r, e, h1, by rw [x2]; exact h2, by rw [x3]; exact h3⟩
/-- What may stand behind a member: no - ahead. -/
def Clear (t : List UInt8) : Prop := ∃ a r, t = a :: r ∧ a ≠ 45
theorem clear_sign (k : Nat) (t : List UInt8) : Clear (csign k ++ t) := by
  obtain ⟨a, r, e, h, _⟩ := csign_first k
  exact ⟨a, r ++ t, by rw [e]; rfl, h⟩
theorem member_one (k : Nat) (hk : k < 256) (t : List UInt8) (ht : Clear t) : memberAt (csign k ++ t) = (k, k, (csign k).length) := by
  obtain ⟨a, r, rfl, ha⟩ := ht
  have h1 := csign_back k hk (a :: r)
  have h2 := csign_pos k
  unfold memberAt
  rw [h1]
  show (if (csign k).length = 0 then _ else _) = _
  rw [if_neg (by omega)]
  show (if ¬ ((csign k ++ a :: r).drop (csign k).length).headD 0 = 45 ∨ _ then _ else _) = _
  rw [if_pos (.inl (by rw [List.drop_left]; exact ha))]
theorem member_two (a b : Nat) (ha : a < 256) (hb : b < 256) (t : List UInt8) : memberAt (csign a ++ 45 :: (csign b ++ t)) = (a, b, (csign a).length + 1 + (csign b).length) := by
  have h1 := csign_back a ha (45 :: (csign b ++ t))
  have h2 := csign_pos a
  have h3 := csign_back b hb t
  have h4 := csign_pos b
  obtain ⟨c, r, e, hc1, hc2, _⟩ := csign_first b
  have hd : (csign a ++ 45 :: (csign b ++ t)).drop ((csign a).length + 1) = csign b ++ t := by
    rw [← List.drop_drop, List.drop_left]; rfl
  unfold memberAt
  rw [h1]
  show (if (csign a).length = 0 then _ else _) = _
  rw [if_neg (by omega)]
  show (if ¬ ((csign a ++ 45 :: (csign b ++ t)).drop (csign a).length).headD 0 = 45 ∨ _ then _ else _) = _
  rw [if_neg (by
    rw [List.drop_left]
    intro h
    rcases h with h | h
    · exact h rfl
    · apply hc2
      rw [e] at h
      exact h)]
  show (if (signAt cg ((csign a ++ 45 :: (csign b ++ t)).drop ((csign a).length + 1))).2 = 0 then _ else ((a : Nat), (signAt cg ((csign a ++ 45 :: (csign b ++ t)).drop ((csign a).length + 1))).1, (csign a).length + 1 + (signAt cg ((csign a ++ 45 :: (csign b ++ t)).drop ((csign a).length + 1))).2)) = _
  rw [hd, h3]
  rw [if_neg (by show ¬ (csign b).length = 0; omega)]
theorem ucl_one (k : Nat) (hk : k < 256) (t : List UInt8) (ht : Clear t) (acc : BitVec 256) : ucl (csign k ++ t) acc = ucl t (acc ||| rng k k) := by
  have hm := member_one k hk t ht
  obtain ⟨a, r, e, _, h93, _⟩ := csign_first k
  have hp := csign_pos k
  have e2 : csign k ++ t = a :: (r ++ t) := by rw [e]; rfl
  have hd : (csign k ++ t).drop (csign k).length = t := List.drop_left
  rw [e2] at hm hd ⊢
  rw [ucl_on a (r ++ t) acc h93 (by rw [hm]; show ¬ ((csign k).length = 0 ∨ k < k); omega), hm]
  show ucl ((a :: (r ++ t)).drop (csign k).length) (acc ||| rng k k) = _
  rw [hd]
theorem ucl_two (x y : Nat) (hx : x < 256) (hy : y < 256) (hxy : x ≤ y) (t : List UInt8) (acc : BitVec 256) : ucl (csign x ++ 45 :: (csign y ++ t)) acc = ucl t (acc ||| rng x y) := by
  have hm := member_two x y hx hy t
  obtain ⟨a, r, e, _, h93, _⟩ := csign_first x
  have hp := csign_pos x
  have e2 : csign x ++ 45 :: (csign y ++ t) = a :: (r ++ 45 :: (csign y ++ t)) := by rw [e]; rfl
  have hd : (csign x ++ 45 :: (csign y ++ t)).drop ((csign x).length + 1 + (csign y).length) = t := by
    rw [← List.drop_drop, ← List.drop_drop, List.drop_left]
    show (csign y ++ t).drop _ = t
    exact List.drop_left
  rw [e2] at hm hd ⊢
  rw [ucl_on a _ acc h93 (by rw [hm]; show ¬ ((csign x).length + 1 + (csign y).length = 0 ∨ y < x); omega), hm]
  show ucl ((a :: (r ++ 45 :: (csign y ++ t))).drop ((csign x).length + 1 + (csign y).length)) (acc ||| rng x y) = _
  rw [hd]
theorem rng_bit (x y : Int) (i : Nat) (hi : i < 256) : (rng x y).getLsbD i = (decide (x ≤ (i : Int)) && decide ((i : Int) ≤ y)) := by
  unfold rng; rw [getLsbD_upto _ _ _ hi]; simp [hi]
theorem rng_pair (a : Nat) : rng a a ||| rng ((a + 1 : Nat) : Int) ((a + 1 : Nat) : Int) = rng a ((a + 1 : Nat) : Int) := by
  apply set_ext; intro i hi
  rw [BitVec.getLsbD_or, rng_bit _ _ i hi, rng_bit _ _ i hi, rng_bit _ _ i hi, Bool.eq_iff_iff]
  simp only [Bool.or_eq_true, Bool.and_eq_true, decide_eq_true_eq]
  omega
theorem ucl_run (a b : Nat) (hab : a ≤ b) (hb : b < 256) (t : List UInt8) (ht : Clear t) (acc : BitVec 256) : ucl (run a b ++ t) acc = ucl t (acc ||| rng a b) := by
  unfold run
  by_cases h1 : a + 1 < b
  · rw [if_pos h1, if_pos (by omega)]
    have := ucl_two a b (by omega) hb hab t acc
    simpa using this
  · rw [if_neg h1]
    by_cases h2 : a < b
    · obtain rfl : b = a + 1 := by omega
      rw [if_pos h2]
      have e1 := ucl_one a (by omega) (csign (a + 1) ++ t) (clear_sign (a + 1) t) acc
      have e2 := ucl_one (a + 1) hb t ht (acc ||| rng a a)
      rw [BitVec.or_assoc, rng_pair] at e2
      simpa [e2] using e1
    · obtain rfl : b = a := by omega
      rw [if_neg h2]
      simpa using ucl_one b hb t ht acc
theorem clear_runs (S : BitVec 256) (l : List Nat) (more : List UInt8) : Clear (l.flatMap (fun a => run a (eor S a)) ++ 93 :: more) := by
  cases l with
  | nil => exact ⟨93, more, rfl, by decide⟩
  | cons a l =>
    rw [List.flatMap_cons]
    unfold run
    rw [List.append_assoc, List.append_assoc]
    exact clear_sign a _
def addRun (S : BitVec 256) (acc : BitVec 256) (a : Nat) : BitVec 256 := acc ||| rng (a : Int) (eor S a : Int)
theorem ucl_runs (S : BitVec 256) (more : List UInt8) (l : List Nat) (hl : ∀ a ∈ l, a < 256) : ∀ acc, ucl (l.flatMap (fun a => run a (eor S a)) ++ 93 :: more) acc = some (l.foldl (addRun S) acc, more.length + 1) := by
  induction l with
  | nil => intro acc; exact ucl_end more acc
  | cons a l ih =>
    intro acc
    have ha := hl a (by simp)
    obtain ⟨h1, h2, _⟩ := eor_le S a ha
    rw [List.flatMap_cons, List.append_assoc, ucl_run a (eor S a) h1 (by omega) _ (clear_runs S l more), ih (fun x hx => hl x (by simp [hx]))]
    rfl
theorem fold_bit (S : BitVec 256) (l : List Nat) (i : Nat) (hi : i < 256) : ∀ acc : BitVec 256, (l.foldl (addRun S) acc).getLsbD i = (acc.getLsbD i || l.any fun a => decide (a ≤ i) && decide (i ≤ eor S a)) := by
  induction l with
  | nil => intro acc; simp
  | cons a l ih =>
    intro acc
    rw [List.foldl_cons, ih, addRun, BitVec.getLsbD_or, rng_bit _ _ i hi, List.any_cons, Bool.or_assoc]
    simp
/-- Each byte of S is in a run. -/
theorem in_run (S : BitVec 256) (i : Nat) (hi : i < 256) (h : inS S i = true) : ∃ a, a ≤ i ∧ start S a = true ∧ i ≤ eor S a := by
  induction i with
  | zero =>
    exact ⟨0, Nat.le_refl _, by simp [start, h], Nat.zero_le _⟩
  | succ i ih =>
    cases hp : inS S i
    · exact ⟨i + 1, Nat.le_refl _, by simp [start, h, hp], (eor_le S (i + 1) hi).1⟩
    · obtain ⟨a, h1, h2, h3⟩ := ih (by omega) hp
      obtain ⟨g1, g2, g3, g4⟩ := eor_le S a (by omega)
      refine ⟨a, by omega, h2, ?_⟩
      by_cases e : eor S a = i
      · rcases g4 with g4 | g4
        · omega
        · rw [e, h] at g4; cases g4
      · omega
theorem fold_all (S : BitVec 256) : ((List.range 256).filter (start S)).foldl (addRun S) 0#256 = S := by
  apply set_ext; intro i hi
  rw [fold_bit S _ i hi]
  have hz : (0#256).getLsbD i = false := by simp
  rw [hz, Bool.false_or, Bool.eq_iff_iff]
  constructor
  · intro h
    obtain ⟨a, ha, hb⟩ := List.any_eq_true.1 h
    rw [List.mem_filter, List.mem_range] at ha
    simp only [Bool.and_eq_true, decide_eq_true_eq] at hb
    obtain ⟨g1, g2, g3, g4⟩ := eor_le S a ha.1
    by_cases e : i = a
    · rw [e]
      have := ha.2
      simp only [start, Bool.and_eq_true] at this
      exact this.1
    · exact g3 i (by omega) hb.2
  · intro h
    obtain ⟨a, h1, h2, h3⟩ := in_run S i hi h
    refine List.any_eq_true.2 ⟨a, ?_, ?_⟩
    · rw [List.mem_filter, List.mem_range]; exact ⟨by omega, h2⟩
    · simp [h1, h3]
theorem ucl_cls (S : BitVec 256) (more : List UInt8) : ucl (clsTo S 256 ++ 93 :: more) 0#256 = some (S, more.length + 1) := by
  unfold clsTo
  rw [ucl_runs S more _ (fun a ha => by rw [List.mem_filter, List.mem_range] at ha; exact ha.1), fold_all]
theorem cls_first (S : BitVec 256) (more : List UInt8) : (clsTo S 256 ++ 93 :: more).headD 0 ≠ 94 := by
  unfold clsTo
  cases h : (List.range 256).filter (start S) with
  | nil => show (93 : UInt8) ≠ 94; decide
  | cons a l =>
    obtain ⟨c, r, e, _, _, h94⟩ := csign_first a
    rw [List.flatMap_cons]
    unfold run
    rw [e]
    exact h94
/-- A class is read as it was, whatever stands behind. -/
theorem unclass_back (S : BitVec 256) (more : List UInt8) : unclass (cls S ++ more) = some (S, (cls S).length) := by
  have e : cls S ++ more = 91 :: (clsTo S 256 ++ 93 :: more) := by simp [cls]
  have h1 := cls_first S more
  unfold unclass within others
  rw [e]
  simp only [List.headD_cons, List.drop_succ_cons, List.drop_zero, if_true, if_neg h1, decide_eq_false h1, Bool.false_eq_true, if_false]
  rw [ucl_cls]
  simp only [Option.map_some, Option.some.injEq, Prod.mk.injEq, true_and]
  simp [cls]
  omega
/-- With ^ ahead it is all others. -/
theorem unclass_not (S : BitVec 256) : unclass (91 :: 94 :: (cls S).drop 1) = some (~~~S, (cls S).length + 1) := by
  have e : (cls S).drop 1 = clsTo S 256 ++ 93 :: [] := by simp [cls]
  unfold unclass within others
  rw [e]
  simp only [List.headD_cons, List.drop_succ_cons, List.drop_zero, if_true, decide_true]
  rw [ucl_cls]
  simp only [Option.map_some, Option.some.injEq, Prod.mk.injEq, true_and]
  simp [cls]
end Go.Proofs.YtbeohmcmphebhaaDoor
