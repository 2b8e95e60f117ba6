import Derived.Test.YtbeohmcmphebhaaGreatDoorXQOwn
import Derived.Test.YtbeohmcmphebhaaGreatDoorXUOps
import Derived.Test.YtbeohmcmphebhaaGreatDoorXName
namespace Go.Proofs.YtbeohmcmphebhaaGreatDoor
open Go

/-- The signs that have a stroke ahead in a class. -/
def cg : List UInt8 := [91, 93, 45, 94, 92]
def csign (k : Nat) : List UInt8 := sign 33 cg (UInt8.ofNat k)
/-- The end of the run that k is in, n steps at most. -/
def eorN (S : BitVec 256) : Nat → Nat → Nat
  | k, 0 => k
  | k, n + 1 => if inS S (k + 1) then eorN S (k + 1) n else k
def eor (S : BitVec 256) (k : Nat) : Nat := eorN S k (255 - k)
def start (S : BitVec 256) (k : Nat) : Bool := inS S k && (decide (k = 0) || !inS S (k - 1))
def run (a b : Nat) : List UInt8 := csign a ++ ((if a + 1 < b then [45] else []) ++ (if a < b then csign b else []))
def clsTo (S : BitVec 256) (k : Nat) : List UInt8 := ((List.range k).filter (start S)).flatMap fun a => run a (eor S a)
def cls (S : BitVec 256) : List UInt8 := 91 :: (clsTo S 256 ++ [93])

theorem eor_yes (S : BitVec 256) (k : Nat) (hk : k < 255) (h : inS S (k + 1) = true) : eor S k = eor S (k + 1) := by
  unfold eor
  rw [show 255 - k = (255 - (k + 1)) + 1 from by omega, eorN, if_pos h]
theorem eor_no (S : BitVec 256) (k : Nat) (hk : k < 255) (h : inS S (k + 1) = false) : eor S k = k := by
  unfold eor
  rw [show 255 - k = (254 - k) + 1 from by omega, eorN, if_neg (by simp [h])]
theorem eor_end (S : BitVec 256) (k : Nat) (hk : 255 ≤ k) : eor S k = k := by
  unfold eor
  rw [show 255 - k = 0 from by omega, eorN]
theorem eor_all (S : BitVec 256) (n k : Nat) (h : k + n = 255) : k ≤ eor S k ∧ eor S k ≤ 255 ∧ (∀ i, k < i → i ≤ eor S k → inS S i = true) ∧ (eor S k = 255 ∨ inS S (eor S k + 1) = false) := by
  induction n generalizing k with
  | zero =>
    rw [eor_end S k (by omega)]
    exact ⟨Nat.le_refl _, by omega, fun i h1 h2 => by omega, .inl (by omega)⟩
  | succ n ih =>
    cases hi : inS S (k + 1)
    · rw [eor_no S k (by omega) hi]
      exact ⟨Nat.le_refl _, by omega, fun i h1 h2 => by omega, .inr hi⟩
    · rw [eor_yes S k (by omega) hi]
      obtain ⟨h1, h2, h3, h4⟩ := ih (k + 1) (by omega)
      refine ⟨by omega, h2, fun i g1 g2 => ?_, h4⟩
      by_cases e : i = k + 1
      · rw [e]; exact hi
      · exact h3 i (by omega) g2
theorem eor_le (S : BitVec 256) (k : Nat) (hk : k < 256) : k ≤ eor S k ∧ eor S k ≤ 255 ∧ (∀ i, k < i → i ≤ eor S k → inS S i = true) ∧ (eor S k = 255 ∨ inS S (eor S k + 1) = false) := eor_all S (255 - k) k (by omega)
theorem clsTo_succ (S : BitVec 256) (k : Nat) : clsTo S (k + 1) = clsTo S k ++ (if start S k then run k (eor S k) else []) := by
  unfold clsTo
  rw [List.range_succ, List.filter_append, List.flatMap_append]
  congr 1
  cases h : start S k <;> simp [h]
theorem clsTo_yes (S : BitVec 256) (k : Nat) (h : start S k = true) : clsTo S (k + 1) = clsTo S k ++ run k (eor S k) := by rw [clsTo_succ, if_pos h]
theorem clsTo_no (S : BitVec 256) (k : Nat) (h : start S k = false) : clsTo S (k + 1) = clsTo S k := by rw [clsTo_succ, if_neg (by simp [h])]; simp
theorem clsTo_same (S : BitVec 256) (a n : Nat) (h : ∀ i, a ≤ i → i < a + n → start S i = false) : clsTo S (a + n) = clsTo S a := by
  induction n with
  | zero => rfl
  | succ n ih => rw [← Nat.add_assoc, clsTo_no S _ (h (a + n) (by omega) (by omega)), ih (fun i h1 h2 => h i h1 (by omega))]
theorem start_out (S : BitVec 256) (i : Nat) (h : inS S i = false) : start S i = false := by simp [start, h]
theorem start_in (S : BitVec 256) (i : Nat) (h0 : i ≠ 0) (h : inS S (i - 1) = true) : start S i = false := by simp [start, h, h0]
/-- Behind a run all starts that lie in it are none. -/
theorem clsTo_run (S : BitVec 256) (k : Nat) (hk : k < 256) (hin : inS S k = true) (hs : start S k = true) : clsTo S (eor S k + 1) = clsTo S k ++ run k (eor S k) := by
  obtain ⟨h1, h2, h3, h4⟩ := eor_le S k hk
  have := clsTo_same S (k + 1) (eor S k - k) (fun i g1 g2 => start_in S i (by omega) (by
    by_cases e : i - 1 = k
    · rw [e]; exact hin
    · exact h3 (i - 1) (by omega) (by omega)))
  rw [show k + 1 + (eor S k - k) = eor S k + 1 from by omega] at this
  rw [this, clsTo_yes S k hs]
theorem run_len (a b : Nat) : (run a b).length ≤ 9 := by
  have h1 := sign_len 33 cg (UInt8.ofNat a)
  have h2 := sign_len 33 cg (UInt8.ofNat b)
  unfold run csign
  rw [List.length_append, List.length_append]
  split <;> split <;> simp <;> omega
theorem clsTo_len (S : BitVec 256) (k : Nat) : (clsTo S k).length ≤ 9 * k := by
  induction k with
  | zero => simp [clsTo]
  | succ k ih =>
    rw [clsTo_succ, List.length_append]
    have := run_len k (eor S k)
    split
    · omega
    · simp; omega
theorem cls_len (S : BitVec 256) : 2 ≤ (cls S).length ∧ (cls S).length ≤ 2306 := by
  have := clsTo_len S 256
  simp only [cls, List.length_cons, List.length_append, List.length_nil]
  omega

/-- A member at the beginning of l: its first and last byte, and how many bytes say it; 0: none. -/
def memberAt (l : List UInt8) : Nat × Nat × Nat :=
  if (signAt cg l).2 = 0 then (0, 0, 0)
  else if ¬ (l.drop (signAt cg l).2).headD 0 = 45 ∨ (l.drop (signAt cg l).2).tail.headD 0 = 93 then ((signAt cg l).1, (signAt cg l).1, (signAt cg l).2)
  else if (signAt cg (l.drop ((signAt cg l).2 + 1))).2 = 0 then (0, 0, 0)
  else ((signAt cg l).1, (signAt cg (l.drop ((signAt cg l).2 + 1))).1, (signAt cg l).2 + 1 + (signAt cg (l.drop ((signAt cg l).2 + 1))).2)
theorem memberAt_lt (l : List UInt8) : (memberAt l).1 < 256 ∧ (memberAt l).2.1 < 256 ∧ (memberAt l).2.2 ≤ l.length := by
  unfold memberAt
  have h1 := signAt_lt cg l
  have h2 := signAt_lt cg (l.drop ((signAt cg l).2 + 1))
  rw [List.length_drop] at h2
  split
  · simp
  · split
    · exact ⟨h1.1, h1.1, h1.2⟩
    · split
      · simp
      · rename_i g1 g2 g3
        refine ⟨h1.1, h2.1, ?_⟩
        show _ + 1 + _ ≤ _
        omega
/-- The members from here on, m bytes at most: their set, and how much is left where the class ends. -/
def uclF : Nat → List UInt8 → BitVec 256 → Option (BitVec 256 × Nat)
  | 0, _, _ => none
  | m + 1, rest, acc =>
    match rest with
    | [] => none
    | a :: r => if a = 93 then some (acc, r.length + 1) else if (memberAt (a :: r)).2.2 = 0 ∨ (memberAt (a :: r)).2.1 < (memberAt (a :: r)).1 then none
      else uclF m ((a :: r).drop (memberAt (a :: r)).2.2) (acc ||| rng (memberAt (a :: r)).1 (memberAt (a :: r)).2.1)
theorem uclF_any : ∀ (m k : Nat) (rest : List UInt8) (acc : BitVec 256), rest.length ≤ m → rest.length ≤ k → uclF m rest acc = uclF k rest acc := by
  intro m
  induction m with
  | zero =>
    intro k rest acc hm _
    have e : rest = [] := List.eq_nil_of_length_eq_zero (by omega)
    subst e
    cases k <;> rfl
  | succ m ih =>
    intro k rest acc hm hk
    cases rest with
    | nil => cases k <;> rfl
    | cons a r =>
      cases k with
      | zero => simp at hk
      | succ k =>
        rw [List.length_cons] at hm hk
        show (if a = 93 then _ else if _ then _ else _) = (if a = 93 then _ else if _ then _ else _)
        split
        · rfl
        · split
          · rfl
          · rename_i h0
            have h1 : (memberAt (a :: r)).2.2 ≠ 0 := fun h => h0 (.inl h)
            exact ih k _ _ (by rw [List.length_drop, List.length_cons]; omega) (by rw [List.length_drop, List.length_cons]; omega)
/-- The members from here on: their set, and how much is left where the class ends. -/
def ucl (rest : List UInt8) (acc : BitVec 256) : Option (BitVec 256 × Nat) := uclF rest.length rest acc
theorem ucl_cons (a : UInt8) (r : List UInt8) (acc : BitVec 256) : ucl (a :: r) acc = if a = 93 then some (acc, r.length + 1) else if (memberAt (a :: r)).2.2 = 0 ∨ (memberAt (a :: r)).2.1 < (memberAt (a :: r)).1 then none
      else uclF r.length ((a :: r).drop (memberAt (a :: r)).2.2) (acc ||| rng (memberAt (a :: r)).1 (memberAt (a :: r)).2.1) := rfl
theorem ucl_nil (acc : BitVec 256) : ucl [] acc = none := rfl
theorem ucl_end (r : List UInt8) (acc : BitVec 256) : ucl (93 :: r) acc = some (acc, r.length + 1) := by rw [ucl_cons, if_pos rfl]
theorem ucl_bad (a : UInt8) (r : List UInt8) (acc : BitVec 256) (h : a ≠ 93) (hb : (memberAt (a :: r)).2.2 = 0 ∨ (memberAt (a :: r)).2.1 < (memberAt (a :: r)).1) : ucl (a :: r) acc = none := by rw [ucl_cons, if_neg h, if_pos hb]
theorem ucl_on (a : UInt8) (r : List UInt8) (acc : BitVec 256) (h : a ≠ 93) (hb : ¬ ((memberAt (a :: r)).2.2 = 0 ∨ (memberAt (a :: r)).2.1 < (memberAt (a :: r)).1)) :
    ucl (a :: r) acc = ucl ((a :: r).drop (memberAt (a :: r)).2.2) (acc ||| rng (memberAt (a :: r)).1 (memberAt (a :: r)).2.1) := by
  have h1 : (memberAt (a :: r)).2.2 ≠ 0 := fun h => hb (.inl h)
  rw [ucl_cons, if_neg h, if_neg hb]
  exact uclF_any _ _ _ _ (by rw [List.length_drop, List.length_cons]; omega) (Nat.le_refl _)
/-- What stands behind [ and, it may be, ^. -/
def within (l : List UInt8) : List UInt8 := if (l.drop 1).headD 0 = 94 then l.drop 2 else l.drop 1
def others (l : List UInt8) : Bool := decide ((l.drop 1).headD 0 = 94)
/-- A class at the beginning of l. -/
def unclass (l : List UInt8) : Option (BitVec 256 × Nat) :=
  if l.headD 0 = 91 then (ucl (within l) 0#256).map fun x => (if others l then ~~~x.1 else x.1, l.length - x.2 + 1) else none
def kS (o : Option (BitVec 256 × Nat)) : BitVec 256 := match o with | some x => x.1 | none => 0#256
def kN (o : Option (BitVec 256 × Nat)) : Int := match o with | some x => x.2 | none => 0
def kE (o : Option (BitVec 256 × Nat)) : Int := match o with | some _ => 0 | none => 4

/-! What is written is read. -/
theorem cg_ok (b : UInt8) (h : gd cg b = true) : gd cg b = true := h
theorem csign_back (k : Nat) (hk : k < 256) (r : List UInt8) : signAt cg (csign k ++ r) = (k, (csign k).length) := by
  have := sign_back 33 cg cg (UInt8.ofNat k) r (fun h => h) (by decide) ⟨by decide, by decide, by decide⟩
  unfold csign
  rw [this]
  congr 1
  simp; omega
theorem csign_head (k : Nat) (q : UInt8) (hq : gd cg q = true) (h92 : q ≠ 92) : ∃ a r, csign k = a :: r ∧ a ≠ q := sign_head 33 cg (UInt8.ofNat k) q hq h92
theorem csign_pos (k : Nat) : 0 < (csign k).length := sign_ne 33 cg _
theorem csign_first (k : Nat) : ∃ a r, csign k = a :: r ∧ a ≠ 45 ∧ a ≠ 93 ∧ a ≠ 94 := by
  obtain ⟨a, r, e, h1⟩ := csign_head k 45 (by decide) (by decide)
  obtain ⟨a2, r2, e2, h2⟩ := csign_head k 93 (by decide) (by decide)
  obtain ⟨a3, r3, e3, h3⟩ := csign_head k 94 (by decide) (by decide)
  have x2 : a = a2 := (List.cons.inj (e.symm.trans e2)).1
  have x3 : a = a3 := (List.cons.inj (e.symm.trans e3)).1
  exact ⟨a, r, e, h1, by rw [x2]; exact h2, by rw [x3]; exact h3⟩
/-- What may stand behind a member: no - ahead. -/
def Clear (t : List UInt8) : Prop := ∃ a r, t = a :: r ∧ a ≠ 45
theorem clear_sign (k : Nat) (t : List UInt8) : Clear (csign k ++ t) := by
  obtain ⟨a, r, e, h, _⟩ := csign_first k
  exact ⟨a, r ++ t, by rw [e]; rfl, h⟩
theorem member_one (k : Nat) (hk : k < 256) (t : List UInt8) (ht : Clear t) : memberAt (csign k ++ t) = (k, k, (csign k).length) := by
  obtain ⟨a, r, rfl, ha⟩ := ht
  have h1 := csign_back k hk (a :: r)
  have h2 := csign_pos k
  unfold memberAt
  rw [h1]
  show (if (csign k).length = 0 then _ else _) = _
  rw [if_neg (by omega)]
  show (if ¬ ((csign k ++ a :: r).drop (csign k).length).headD 0 = 45 ∨ _ then _ else _) = _
  rw [if_pos (.inl (by rw [List.drop_left]; exact ha))]
theorem member_two (a b : Nat) (ha : a < 256) (hb : b < 256) (t : List UInt8) : memberAt (csign a ++ 45 :: (csign b ++ t)) = (a, b, (csign a).length + 1 + (csign b).length) := by
  have h1 := csign_back a ha (45 :: (csign b ++ t))
  have h2 := csign_pos a
  have h3 := csign_back b hb t
  have h4 := csign_pos b
  obtain ⟨c, r, e, hc1, hc2, _⟩ := csign_first b
  have hd : (csign a ++ 45 :: (csign b ++ t)).drop ((csign a).length + 1) = csign b ++ t := by
    rw [← List.drop_drop, List.drop_left]; rfl
  unfold memberAt
  rw [h1]
  show (if (csign a).length = 0 then _ else _) = _
  rw [if_neg (by omega)]
  show (if ¬ ((csign a ++ 45 :: (csign b ++ t)).drop (csign a).length).headD 0 = 45 ∨ _ then _ else _) = _
  rw [if_neg (by
    rw [List.drop_left]
    intro h
    rcases h with h | h
    · exact h rfl
    · apply hc2
      rw [e] at h
      exact h)]
  show (if (signAt cg ((csign a ++ 45 :: (csign b ++ t)).drop ((csign a).length + 1))).2 = 0 then _ else ((a : Nat), (signAt cg ((csign a ++ 45 :: (csign b ++ t)).drop ((csign a).length + 1))).1, (csign a).length + 1 + (signAt cg ((csign a ++ 45 :: (csign b ++ t)).drop ((csign a).length + 1))).2)) = _
  rw [hd, h3]
  rw [if_neg (by show ¬ (csign b).length = 0; omega)]
theorem ucl_one (k : Nat) (hk : k < 256) (t : List UInt8) (ht : Clear t) (acc : BitVec 256) : ucl (csign k ++ t) acc = ucl t (acc ||| rng k k) := by
  have hm := member_one k hk t ht
  obtain ⟨a, r, e, _, h93, _⟩ := csign_first k
  have hp := csign_pos k
  have e2 : csign k ++ t = a :: (r ++ t) := by rw [e]; rfl
  have hd : (csign k ++ t).drop (csign k).length = t := List.drop_left
  rw [e2] at hm hd ⊢
  rw [ucl_on a (r ++ t) acc h93 (by rw [hm]; show ¬ ((csign k).length = 0 ∨ k < k); omega), hm]
  show ucl ((a :: (r ++ t)).drop (csign k).length) (acc ||| rng k k) = _
  rw [hd]
theorem ucl_two (x y : Nat) (hx : x < 256) (hy : y < 256) (hxy : x ≤ y) (t : List UInt8) (acc : BitVec 256) : ucl (csign x ++ 45 :: (csign y ++ t)) acc = ucl t (acc ||| rng x y) := by
  have hm := member_two x y hx hy t
  obtain ⟨a, r, e, _, h93, _⟩ := csign_first x
  have hp := csign_pos x
  have e2 : csign x ++ 45 :: (csign y ++ t) = a :: (r ++ 45 :: (csign y ++ t)) := by rw [e]; rfl
  have hd : (csign x ++ 45 :: (csign y ++ t)).drop ((csign x).length + 1 + (csign y).length) = t := by
    rw [← List.drop_drop, ← List.drop_drop, List.drop_left]
    show (csign y ++ t).drop _ = t
    exact List.drop_left
  rw [e2] at hm hd ⊢
  rw [ucl_on a _ acc h93 (by rw [hm]; show ¬ ((csign x).length + 1 + (csign y).length = 0 ∨ y < x); omega), hm]
  show ucl ((a :: (r ++ 45 :: (csign y ++ t))).drop ((csign x).length + 1 + (csign y).length)) (acc ||| rng x y) = _
  rw [hd]
theorem rng_bit (x y : Int) (i : Nat) (hi : i < 256) : (rng x y).getLsbD i = (decide (x ≤ (i : Int)) && decide ((i : Int) ≤ y)) := by
  unfold rng; rw [getLsbD_upto _ _ _ hi]; simp [hi]
theorem rng_pair (a : Nat) : rng a a ||| rng ((a + 1 : Nat) : Int) ((a + 1 : Nat) : Int) = rng a ((a + 1 : Nat) : Int) := by
  apply set_ext; intro i hi
  rw [BitVec.getLsbD_or, rng_bit _ _ i hi, rng_bit _ _ i hi, rng_bit _ _ i hi, Bool.eq_iff_iff]
  simp only [Bool.or_eq_true, Bool.and_eq_true, decide_eq_true_eq]
  omega
theorem ucl_run (a b : Nat) (hab : a ≤ b) (hb : b < 256) (t : List UInt8) (ht : Clear t) (acc : BitVec 256) : ucl (run a b ++ t) acc = ucl t (acc ||| rng a b) := by
  unfold run
  by_cases h1 : a + 1 < b
  · rw [if_pos h1, if_pos (by omega)]
    have := ucl_two a b (by omega) hb hab t acc
    simpa using this
  · rw [if_neg h1]
    by_cases h2 : a < b
    · obtain rfl : b = a + 1 := by omega
      rw [if_pos h2]
      have e1 := ucl_one a (by omega) (csign (a + 1) ++ t) (clear_sign (a + 1) t) acc
      have e2 := ucl_one (a + 1) hb t ht (acc ||| rng a a)
      rw [BitVec.or_assoc, rng_pair] at e2
      simpa [e2] using e1
    · obtain rfl : b = a := by omega
      rw [if_neg h2]
      simpa using ucl_one b hb t ht acc
theorem clear_runs (S : BitVec 256) (l : List Nat) (more : List UInt8) : Clear (l.flatMap (fun a => run a (eor S a)) ++ 93 :: more) := by
  cases l with
  | nil => exact ⟨93, more, rfl, by decide⟩
  | cons a l =>
    rw [List.flatMap_cons]
    unfold run
    rw [List.append_assoc, List.append_assoc]
    exact clear_sign a _
def addRun (S : BitVec 256) (acc : BitVec 256) (a : Nat) : BitVec 256 := acc ||| rng (a : Int) (eor S a : Int)
theorem ucl_runs (S : BitVec 256) (more : List UInt8) (l : List Nat) (hl : ∀ a ∈ l, a < 256) : ∀ acc, ucl (l.flatMap (fun a => run a (eor S a)) ++ 93 :: more) acc = some (l.foldl (addRun S) acc, more.length + 1) := by
  induction l with
  | nil => intro acc; exact ucl_end more acc
  | cons a l ih =>
    intro acc
    have ha := hl a (by simp)
    obtain ⟨h1, h2, _⟩ := eor_le S a ha
    rw [List.flatMap_cons, List.append_assoc, ucl_run a (eor S a) h1 (by omega) _ (clear_runs S l more), ih (fun x hx => hl x (by simp [hx]))]
    rfl
theorem fold_bit (S : BitVec 256) (l : List Nat) (i : Nat) (hi : i < 256) : ∀ acc : BitVec 256, (l.foldl (addRun S) acc).getLsbD i = (acc.getLsbD i || l.any fun a => decide (a ≤ i) && decide (i ≤ eor S a)) := by
  induction l with
  | nil => intro acc; simp
  | cons a l ih =>
    intro acc
    rw [List.foldl_cons, ih, addRun, BitVec.getLsbD_or, rng_bit _ _ i hi, List.any_cons, Bool.or_assoc]
    simp
/-- Each byte of S is in a run. -/
theorem in_run (S : BitVec 256) (i : Nat) (hi : i < 256) (h : inS S i = true) : ∃ a, a ≤ i ∧ start S a = true ∧ i ≤ eor S a := by
  induction i with
  | zero =>
    exact ⟨0, Nat.le_refl _, by simp [start, h], Nat.zero_le _⟩
  | succ i ih =>
    cases hp : inS S i
    · exact ⟨i + 1, Nat.le_refl _, by simp [start, h, hp], (eor_le S (i + 1) hi).1⟩
    · obtain ⟨a, h1, h2, h3⟩ := ih (by omega) hp
      obtain ⟨g1, g2, g3, g4⟩ := eor_le S a (by omega)
      refine ⟨a, by omega, h2, ?_⟩
      by_cases e : eor S a = i
      · rcases g4 with g4 | g4
        · omega
        · rw [e, h] at g4; cases g4
      · omega
theorem fold_all (S : BitVec 256) : ((List.range 256).filter (start S)).foldl (addRun S) 0#256 = S := by
  apply set_ext; intro i hi
  rw [fold_bit S _ i hi]
  have hz : (0#256).getLsbD i = false := by simp
  rw [hz, Bool.false_or, Bool.eq_iff_iff]
  constructor
  · intro h
    obtain ⟨a, ha, hb⟩ := List.any_eq_true.1 h
    rw [List.mem_filter, List.mem_range] at ha
    simp only [Bool.and_eq_true, decide_eq_true_eq] at hb
    obtain ⟨g1, g2, g3, g4⟩ := eor_le S a ha.1
    by_cases e : i = a
    · rw [e]
      have := ha.2
      simp only [start, Bool.and_eq_true] at this
      exact this.1
    · exact g3 i (by omega) hb.2
  · intro h
    obtain ⟨a, h1, h2, h3⟩ := in_run S i hi h
    refine List.any_eq_true.2 ⟨a, ?_, ?_⟩
    · rw [List.mem_filter, List.mem_range]; exact ⟨by omega, h2⟩
    · simp [h1, h3]
theorem ucl_cls (S : BitVec 256) (more : List UInt8) : ucl (clsTo S 256 ++ 93 :: more) 0#256 = some (S, more.length + 1) := by
  unfold clsTo
  rw [ucl_runs S more _ (fun a ha => by rw [List.mem_filter, List.mem_range] at ha; exact ha.1), fold_all]
theorem cls_first (S : BitVec 256) (more : List UInt8) : (clsTo S 256 ++ 93 :: more).headD 0 ≠ 94 := by
  unfold clsTo
  cases h : (List.range 256).filter (start S) with
  | nil => show (93 : UInt8) ≠ 94; decide
  | cons a l =>
    obtain ⟨c, r, e, _, _, h94⟩ := csign_first a
    rw [List.flatMap_cons]
    unfold run
    rw [e]
    exact h94
/-- A class is read as it was, whatever stands behind. -/
theorem unclass_back (S : BitVec 256) (more : List UInt8) : unclass (cls S ++ more) = some (S, (cls S).length) := by
  have e : cls S ++ more = 91 :: (clsTo S 256 ++ 93 :: more) := by simp [cls]
  have h1 := cls_first S more
  unfold unclass within others
  rw [e]
  simp only [List.headD_cons, List.drop_succ_cons, List.drop_zero, if_true, if_neg h1, decide_eq_false h1, Bool.false_eq_true, if_false]
  rw [ucl_cls]
  simp only [Option.map_some, Option.some.injEq, Prod.mk.injEq, true_and]
  simp [cls]
  omega
/-- With ^ ahead it is all others. -/
theorem unclass_not (S : BitVec 256) : unclass (91 :: 94 :: (cls S).drop 1) = some (~~~S, (cls S).length + 1) := by
  have e : (cls S).drop 1 = clsTo S 256 ++ 93 :: [] := by simp [cls]
  unfold unclass within others
  rw [e]
  simp only [List.headD_cons, List.drop_succ_cons, List.drop_zero, if_true, decide_true]
  rw [ucl_cls]
  simp only [Option.map_some, Option.some.injEq, Prod.mk.injEq, true_and]
  simp [cls]
end Go.Proofs.YtbeohmcmphebhaaGreatDoor
namespace Go.Proofs.YtbeohmcmphebhaaGreatDoor
/-! What a text says, in plain terms. -/
def isBl (c : UInt8) : Bool := c == 32 || c == 9 || c == 10 || c == 13
/-- Behind the next byte 10. -/
def behind10 (l : List UInt8) : List UInt8 := (l.dropWhile (· != 10)).drop 1
/-- Without blanks and remarks ahead; n: how many bytes it may have. -/
def skipF : Nat → List UInt8 → List UInt8
  | 0, l => l
  | n + 1, l => if (l.dropWhile isBl).headD 0 = 35 then skipF n (behind10 (l.dropWhile isBl)) else l.dropWhile isBl
def skip (l : List UInt8) : List UInt8 := skipF l.length l
theorem dropWhile_len (p : UInt8 → Bool) (l : List UInt8) : (l.dropWhile p).length ≤ l.length := (List.dropWhile_suffix p).length_le
theorem behind10_len (l : List UInt8) (h : l ≠ []) : (behind10 l).length < l.length := by
  unfold behind10
  have h1 := dropWhile_len (· != 10) l
  cases hd : l.dropWhile (· != 10) with
  | nil =>
    have := List.length_pos_iff.2 h
    simpa using this
  | cons a r => rw [hd] at h1; simp at h1 ⊢; omega
theorem skipF_any : ∀ (m k : Nat) (l : List UInt8), l.length ≤ m → l.length ≤ k → skipF m l = skipF k l := by
  intro m
  induction m with
  | zero =>
    intro k l hm _
    have e : l = [] := List.eq_nil_of_length_eq_zero (by omega)
    subst e
    cases k <;> simp [skipF]
  | succ m ih =>
    intro k l hm hk
    cases k with
    | zero =>
      have e : l = [] := List.eq_nil_of_length_eq_zero (by omega)
      subst e
      simp [skipF]
    | succ k =>
      have h1 := dropWhile_len isBl l
      show (if _ then _ else _) = (if _ then _ else _)
      split
      · rename_i h35
        have h2 : l.dropWhile isBl ≠ [] := by intro h; rw [h] at h35; simp at h35
        have h3 := behind10_len _ h2
        exact ih k _ (by omega) (by omega)
      · rfl
theorem skip_no (l : List UInt8) (h : ¬ (l.dropWhile isBl).headD 0 = 35) : skip l = l.dropWhile isBl := by
  unfold skip
  cases hl : l.length with
  | zero =>
    have e : l = [] := List.eq_nil_of_length_eq_zero hl
    subst e; rfl
  | succ n => rw [skipF, if_neg h]
theorem skip_yes (l : List UInt8) (h : (l.dropWhile isBl).headD 0 = 35) : skip l = skip (behind10 (l.dropWhile isBl)) := by
  unfold skip
  have h2 : l.dropWhile isBl ≠ [] := by intro h'; rw [h'] at h; simp at h
  have h3 := behind10_len _ h2
  have h1 := dropWhile_len isBl l
  cases hl : l.length with
  | zero =>
    have e : l = [] := List.eq_nil_of_length_eq_zero hl
    subst e
    simp at h2
  | succ n =>
    rw [skipF, if_pos h]
    exact skipF_any _ _ _ (by omega) (Nat.le_refl _)
theorem skip_suffix : ∀ (n : Nat) (l : List UInt8), l.length ≤ n → skip l <:+ l := by
  intro n
  induction n with
  | zero =>
    intro l hl
    have e : l = [] := List.eq_nil_of_length_eq_zero (by omega)
    subst e; exact List.suffix_refl _
  | succ n ih =>
    intro l hl
    by_cases h : (l.dropWhile isBl).headD 0 = 35
    · rw [skip_yes l h]
      have h2 : l.dropWhile isBl ≠ [] := by intro h'; rw [h'] at h; simp at h
      have h3 := behind10_len _ h2
      have h1 := dropWhile_len isBl l
      refine (ih _ (by omega)).trans (List.IsSuffix.trans ?_ (List.dropWhile_suffix isBl))
      unfold behind10
      exact (List.drop_suffix _ _).trans (List.dropWhile_suffix _)
    · rw [skip_no l h]; exact List.dropWhile_suffix _
theorem skip_suf (l : List UInt8) : skip l <:+ l := skip_suffix _ l (Nat.le_refl _)
/-- Behind blanks no blank stands, and no remark. -/
theorem skip_head : ∀ (n : Nat) (l : List UInt8), l.length ≤ n → ∀ c r, skip l = c :: r → isBl c = false ∧ c ≠ 35 := by
  intro n
  induction n with
  | zero =>
    intro l hl c r h
    have e : l = [] := List.eq_nil_of_length_eq_zero (by omega)
    subst e; cases h
  | succ n ih =>
    intro l hl c r hc
    by_cases h : (l.dropWhile isBl).headD 0 = 35
    · rw [skip_yes l h] at hc
      have h2 : l.dropWhile isBl ≠ [] := by intro h'; rw [h'] at h; simp at h
      have h3 := behind10_len _ h2
      have h1 := dropWhile_len isBl l
      exact ih _ (by omega) c r hc
    · rw [skip_no l h] at hc
      refine ⟨?_, fun e => h (by rw [hc, e]; rfl)⟩
      have := List.head?_dropWhile_not isBl l
      rw [hc] at this
      simpa using this
/-- Expressions without a place. -/
def nd (k : Int) (kids : List Ex) : Ex := .mk k 0#256 ⟨#[]⟩ none 0 kids
def lfS (S : BitVec 256) : Ex := .mk 2 S ⟨#[]⟩ none 0 []
def lfT (k : Int) (t : List UInt8) : Ex := .mk k 0#256 ⟨t.toArray⟩ none 0 []
/-- Several as one; one alone is that itself. -/
def gath (k : Int) (l : List Ex) : Ex := if l.length = 1 then l.headD (nd 0 []) else nd k l
/-- What a leaf at the beginning says, and how many bytes it has. -/
def leafAt (l : List UInt8) : Option (Ex × Nat) :=
  if l.headD 0 = 39 ∨ l.headD 0 = 34 then (unlit [39, 34, 92] l).map fun x => (if x.1 = [] then nd 1 [] else lfT 3 x.1, x.2)
  else if l.headD 0 = 91 then (unclass l).map fun x => (lfS x.1, x.2)
  else if l.headD 0 = 46 then some (lfS (BitVec.allOnes 256), 1)
  else if isL ((l.headD 0).toNat : Int) then some (lfT 4 (l.takeWhile okc), (l.takeWhile okc).length)
  else none
def isSg (c : UInt8) : Bool := c == 40 || c == 41 || c == 47 || c == 38 || c == 33 || c == 63 || c == 42 || c == 43
/-- A token: 0 the end, 1 a leaf, 2 an arrow, 3 what is none, or its sign; the text from it on, the text behind it; what it says. -/
structure Tk where
  mk ::
  (k : UInt8) (s : List UInt8) (r : List UInt8) (e : Ex)
def tokB (s : List UInt8) : Tk :=
  if s = [] then ⟨0, [], [], nd 0 []⟩
  else if s.headD 0 = 60 ∧ (s.drop 1).headD 0 = 45 then ⟨2, s, s.drop 2, nd 0 []⟩
  else if isSg (s.headD 0) then ⟨s.headD 0, s, s.drop 1, nd 0 []⟩
  else match leafAt s with
    | some x => ⟨1, s, s.drop x.2, x.1⟩
    | none => ⟨3, s, [], nd 0 []⟩
def tkB (l : List UInt8) : Tk := tokB (skip l)
theorem tokB_s (s : List UInt8) : (tokB s).s = s := by
  unfold tokB
  split
  · rename_i h; exact h.symm
  split
  · rfl
  split
  · rfl
  split <;> rfl
theorem unl_pos (q : UInt8) (g : List UInt8) : ∀ (m : Nat) (rest text : List UInt8) (n : Nat) (x : List UInt8 × Nat), unlF q g m rest text n = some x → n < x.2
  | 0, _, _, _, _, h => by simp [unlF] at h
  | m + 1, [], _, _, _, h => by simp [unlF] at h
  | m + 1, a :: r, text, n, x, h => by
    rw [unlF] at h
    split at h
    · simp at h; rw [← h]; show n < n + 1; omega
    · split at h
      · cases h
      · have := unl_pos q g m _ _ _ x h; omega
theorem uclF_le : ∀ (m : Nat) (rest : List UInt8) (acc : BitVec 256) (x : BitVec 256 × Nat), uclF m rest acc = some x → x.2 ≤ rest.length ∧ 1 ≤ x.2
  | 0, _, _, _, h => by simp [uclF] at h
  | m + 1, [], _, _, h => by simp [uclF] at h
  | m + 1, a :: r, acc, x, h => by
    rw [uclF] at h
    split at h
    · simp at h; rw [← h]; simp
    · split at h
      · cases h
      · have := uclF_le m _ _ x h; rw [List.length_drop] at this; omega
theorem leafAt_pos (l : List UInt8) (x : Ex × Nat) (h : leafAt l = some x) : 1 ≤ x.2 := by
  unfold leafAt at h
  split at h
  · obtain ⟨y, hy, rfl⟩ := Option.map_eq_some_iff.1 h
    show 1 ≤ y.2
    unfold unlit at hy
    cases l with
    | nil => cases hy
    | cons q r =>
      simp only at hy
      split at hy
      · have := unl_pos q _ _ _ _ _ y hy; omega
      · cases hy
  · split at h
    · obtain ⟨y, hy, rfl⟩ := Option.map_eq_some_iff.1 h
      show 1 ≤ y.2
      rename_i _ h91
      unfold unclass at hy
      rw [if_pos h91] at hy
      obtain ⟨z, hz, hzz⟩ := Option.map_eq_some_iff.1 hy
      rw [← hzz]
      show 1 ≤ l.length - z.2 + 1
      omega
    · split at h
      · cases h; exact Nat.le_refl _
      · split at h
        · cases h
          rename_i hL
          cases l with
          | nil => revert hL; simp [isL]
          | cons c r =>
            have hc : okc c = true := by unfold okc; rw [Bool.or_eq_true]; exact .inl hL
            simp [hc]
        · cases h
theorem unl_le (q : UInt8) (g : List UInt8) : ∀ (m : Nat) (rest text : List UInt8) (n : Nat) (x : List UInt8 × Nat), unlF q g m rest text n = some x → x.2 ≤ n + rest.length
  | 0, _, _, _, _, h => by simp [unlF] at h
  | m + 1, [], _, _, _, h => by simp [unlF] at h
  | m + 1, a :: r, text, n, x, h => by
    rw [unlF] at h
    have hs := (signAt_lt g (a :: r)).2
    split at h
    · simp at h; rw [← h]; show n + 1 ≤ n + (a :: r).length; simp
    · split at h
      · cases h
      · have := unl_le q g m _ _ _ x h; rw [List.length_drop] at this; omega
theorem leafAt_le (l : List UInt8) (x : Ex × Nat) (h : leafAt l = some x) : x.2 ≤ l.length := by
  unfold leafAt at h
  split at h
  · obtain ⟨y, hy, rfl⟩ := Option.map_eq_some_iff.1 h
    show y.2 ≤ l.length
    unfold unlit at hy
    cases l with
    | nil => cases hy
    | cons q r =>
      simp only at hy
      split at hy
      · have := unl_le q _ _ _ _ _ y hy; rw [List.length_cons]; omega
      · cases hy
  · split at h
    · obtain ⟨y, hy, rfl⟩ := Option.map_eq_some_iff.1 h
      show y.2 ≤ l.length
      rename_i _ h91
      have hl : l ≠ [] := by intro e; rw [e] at h91; revert h91; decide
      have hp := List.length_pos_iff.2 hl
      unfold unclass at hy
      rw [if_pos h91] at hy
      obtain ⟨z, hz, hzz⟩ := Option.map_eq_some_iff.1 hy
      rw [← hzz]
      show l.length - z.2 + 1 ≤ l.length
      have := (uclF_le _ _ _ z hz).2
      omega
    · split at h
      · cases h
        rename_i h46
        have hl : l ≠ [] := by intro e; rw [e] at h46; revert h46; decide
        exact List.length_pos_iff.2 hl
      · split at h
        · cases h
          exact (List.takeWhile_prefix _).length_le
        · cases h
/-- What a token's kind says of it. -/
theorem tokB_r (s : List UInt8) (h : (tokB s).k ≠ 0) (h3 : (tokB s).k ≠ 3) : (tokB s).r.length < s.length ∧ (tokB s).r <:+ s := by
  unfold tokB at h h3 ⊢
  by_cases h0 : s = []
  · rw [if_pos h0] at h; exact absurd rfl h
  have hp := List.length_pos_iff.2 h0
  rw [if_neg h0] at h h3 ⊢
  split
  · exact ⟨by show (s.drop 2).length < _; rw [List.length_drop]; omega, List.drop_suffix _ _⟩
  rename_i h2
  rw [if_neg h2] at h h3
  split
  · exact ⟨by show (s.drop 1).length < _; rw [List.length_drop]; omega, List.drop_suffix _ _⟩
  rename_i h4
  rw [if_neg h4] at h h3
  cases hl : leafAt s with
  | none => rw [hl] at h3; exact absurd rfl h3
  | some x =>
    have := leafAt_pos s x hl
    exact ⟨by show (s.drop x.2).length < _; rw [List.length_drop]; omega, List.drop_suffix _ _⟩
theorem tokB_end (s : List UInt8) : (tokB s).k = 0 ↔ s = [] := by
  unfold tokB
  by_cases h0 : s = []
  · simp [h0]
  rw [if_neg h0]
  constructor
  · intro h
    split at h
    · cases h
    split at h
    · rename_i h1 h2
      rw [show s.headD 0 = 0 from h] at h2; cases h2
    split at h <;> cases h
  · intro h; exact absurd h h0
/-- A name and the arrow behind it are one token, 3; what is none is 4. -/
def arr (t : Tk) : Tk :=
  if t.k = 3 then ⟨4, t.s, t.r, t.e⟩
  else if t.k = 1 ∧ t.e.k = 4 ∧ (skip t.r).headD 0 = 60 ∧ ((skip t.r).drop 1).headD 0 = 45 then ⟨3, t.s, (skip t.r).drop 2, t.e⟩
  else t
def tokS (s : List UInt8) : Tk := arr (tokB s)
def tok (l : List UInt8) : Tk := tokS (skip l)
theorem arr_s (t : Tk) : (arr t).s = t.s := by
  unfold arr; split
  · rfl
  split <;> rfl
theorem arr_e (t : Tk) : (arr t).e = t.e := by
  unfold arr; split
  · rfl
  split <;> rfl
theorem arr_k0 (t : Tk) : (arr t).k = 0 ↔ t.k = 0 := by
  unfold arr; split
  · rename_i h; rw [h]; exact ⟨fun e => absurd (show (4 : UInt8) = 0 from e) (by decide), fun e => absurd e (by decide)⟩
  split
  · rename_i h; rw [h.1]; exact ⟨fun e => absurd (show (3 : UInt8) = 0 from e) (by decide), fun e => absurd e (by decide)⟩
  · exact Iff.rfl
theorem tokB_ne4 (s : List UInt8) : (tokB s).k ≠ 4 := by
  unfold tokB
  split
  · show (0 : UInt8) ≠ 4; decide
  split
  · show (2 : UInt8) ≠ 4; decide
  split
  · rename_i h; intro e; rw [show s.headD 0 = 4 from e] at h; revert h; decide
  split
  · show (1 : UInt8) ≠ 4; decide
  · show (3 : UInt8) ≠ 4; decide
theorem arr_k4 (s : List UInt8) : (arr (tokB s)).k = 4 ↔ (tokB s).k = 3 := by
  have h4 := tokB_ne4 s
  unfold arr
  split
  · rename_i h; exact ⟨fun _ => h, fun _ => rfl⟩
  rename_i h3
  split
  · exact ⟨fun h => absurd (show (3 : UInt8) = 4 from h) (by decide), fun h => absurd h h3⟩
  · exact ⟨fun h => absurd h h4, fun h => absurd h h3⟩
theorem tokS_s (s : List UInt8) : (tokS s).s = s := by unfold tokS; rw [arr_s, tokB_s]
theorem tokS_end (s : List UInt8) : (tokS s).k = 0 ↔ s = [] := by unfold tokS; rw [arr_k0]; exact tokB_end s
theorem arr_r (t : Tk) : (arr t).r <:+ t.r := by
  unfold arr; split
  · exact List.suffix_refl _
  split
  · exact (List.drop_suffix _ _).trans (skip_suf _)
  · exact List.suffix_refl _
theorem tokS_r (s : List UInt8) (h : (tokS s).k ≠ 0) (h3 : (tokS s).k ≠ 4) : (tokS s).r.length < s.length ∧ (tokS s).r <:+ s := by
  unfold tokS at h h3 ⊢
  have h1 := tokB_r s (fun e => h ((arr_k0 _).2 e)) (fun e => h3 ((arr_k4 s).2 e))
  have h2 := arr_r (tokB s)
  exact ⟨Nat.lt_of_le_of_lt h2.length_le h1.1, h2.trans h1.2⟩
/-- A token that was cut of a text. -/
def Tk.of (t : Tk) (T : List UInt8) : Prop := t = tokS t.s ∧ t.s <:+ T ∧ t.k ≠ 4
theorem tok_of (l T : List UInt8) (h : l <:+ T) (h3 : (tok l).k ≠ 4) : (tok l).of T := by
  refine ⟨?_, ?_, h3⟩
  · unfold tok; rw [tokS_s]
  · unfold tok; rw [tokS_s]; exact (skip_suf l).trans h
theorem Tk.of.r {t : Tk} {T : List UInt8} (h : t.of T) : t.r <:+ T ∧ t.r.length ≤ t.s.length ∧ (t.k ≠ 0 → t.r.length < t.s.length) := by
  obtain ⟨h1, h2, h3⟩ := h
  by_cases h0 : t.k = 0
  · have hs : t.s = [] := (tokS_end t.s).1 (by rw [← h1]; exact h0)
    have hr : t.r = [] := by rw [h1, hs]; rfl
    rw [hr]; exact ⟨List.nil_suffix, by simp, fun h => absurd h0 h⟩
  · have := tokS_r t.s (by rw [← h1]; exact h0) (by rw [← h1]; exact h3)
    rw [← h1] at this
    exact ⟨this.2.trans h2, by omega, fun _ => this.1⟩
end Go.Proofs.YtbeohmcmphebhaaGreatDoor
