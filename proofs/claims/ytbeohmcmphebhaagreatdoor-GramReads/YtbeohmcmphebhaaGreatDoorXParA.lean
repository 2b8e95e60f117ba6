import Derived.Test.YtbeohmcmphebhaaGreatDoorXApartC
import Derived.Test.YtbeohmcmphebhaaGreatDoorXRsame
import Derived.Test.YtbeohmcmphebhaaGreatDoorXLeaf
import Derived.Test.YtbeohmcmphebhaaGreatDoorXApartB
import Derived.Test.YtbeohmcmphebhaaGreatDoorXTake
namespace Go.Proofs.YtbeohmcmphebhaaGreatDoor
set_option linter.unusedVariables false
/-! What is printed is read as it was. -/
theorem skip_cons (c : UInt8) (l : List UInt8) (hb : isBl c = false) (h35 : c ≠ 35) : skip (c :: l) = c :: l := by
  have hd : (c :: l).dropWhile isBl = c :: l := by rw [List.dropWhile_cons, hb]; rfl
  rw [skip_no _ (by rw [hd]; exact h35), hd]
theorem skip_blank (c : UInt8) (l : List UInt8) (hb : isBl c = true) : skip (c :: l) = skip l := by
  rw [skip_D, skip_D, List.dropWhile_cons, hb]; rfl
theorem tkB_blank (l : List UInt8) : tkB (32 :: l) = tkB l := by unfold tkB; rw [skip_blank 32 l rfl]
theorem tkB_sign (c : UInt8) (l : List UInt8) (h : isSg c = true) : tkB (c :: l) = ⟨c, c :: l, l, nd 0 []⟩ := by
  have hc : c = 40 ∨ c = 41 ∨ c = 47 ∨ c = 38 ∨ c = 33 ∨ c = 63 ∨ c = 42 ∨ c = 43 := by simpa [isSg, or_assoc] using h
  have h1 : isBl c = false ∧ c ≠ 35 ∧ c ≠ 60 := by
    rcases hc with rfl | rfl | rfl | rfl | rfl | rfl | rfl | rfl <;> decide
  unfold tkB
  rw [skip_cons c l h1.1 h1.2.1]
  unfold tokB
  rw [if_neg (by simp), if_neg (by rintro ⟨h2, _⟩; exact h1.2.2 h2), List.headD_cons, if_pos h]
  rfl
theorem tkB_leaf (c : UInt8) (l : List UInt8) (x : Ex × Nat) (hb : isBl c = false) (h35 : c ≠ 35) (h60 : c ≠ 60) (hs : isSg c = false) (hl : leafAt (c :: l) = some x) : tkB (c :: l) = ⟨1, c :: l, (c :: l).drop x.2, x.1⟩ := by
  unfold tkB
  rw [skip_cons c l hb h35]
  unfold tokB
  rw [if_neg (by simp), if_neg (by rintro ⟨h2, _⟩; exact h60 h2), List.headD_cons, if_neg (by rw [hs]; decide), hl]
theorem tkB_cls (S : BitVec 256) (r : List UInt8) : tkB (cls S ++ r) = ⟨1, cls S ++ r, r, lfS S⟩ := by
  obtain ⟨q, hq⟩ : ∃ q, cls S ++ r = 91 :: q := ⟨_, by unfold cls; rw [List.cons_append]⟩
  have hub := unclass_back S r
  have hdr : (cls S ++ r).drop (cls S).length = r := List.drop_left
  rw [hq] at hub hdr ⊢
  have hl : leafAt (91 :: q) = some (lfS S, (cls S).length) := by
    unfold leafAt
    rw [List.headD_cons, if_neg (by decide), if_pos rfl, hub]
    rfl
  rw [tkB_leaf 91 q _ (by decide) (by decide) (by decide) (by decide) hl]
  show Tk.mk 1 (91 :: q) ((91 :: q).drop (cls S).length) (lfS S) = _
  rw [hdr]
theorem tkB_lit (t r : List UInt8) (h : t ≠ []) : tkB (lit t ++ r) = ⟨1, lit t ++ r, r, lfT 3 t⟩ := by
  obtain ⟨q, hq⟩ : ∃ q, lit t ++ r = 39 :: q := ⟨_, by unfold lit; rw [List.cons_append]⟩
  have hub := unlit_back t r
  have hdr : (lit t ++ r).drop (lit t).length = r := List.drop_left
  rw [hq] at hub hdr ⊢
  have hl : leafAt (39 :: q) = some (lfT 3 t, (lit t).length) := by
    unfold leafAt
    rw [List.headD_cons, if_pos (.inl rfl), hub]
    show some ((if t = [] then nd 1 [] else lfT 3 t), (lit t).length) = _
    rw [if_neg h]
  rw [tkB_leaf 39 q _ (by decide) (by decide) (by decide) (by decide) hl]
  show Tk.mk 1 (39 :: q) ((39 :: q).drop (lit t).length) (lfT 3 t) = _
  rw [hdr]
theorem tkB_dot (r : List UInt8) : tkB (46 :: r) = ⟨1, 46 :: r, r, lfS (BitVec.allOnes 256)⟩ := by
  have hl : leafAt (46 :: r) = some (lfS (BitVec.allOnes 256), 1) := by
    unfold leafAt
    rw [List.headD_cons, if_neg (by decide), if_neg (by decide), if_pos rfl]
  rw [tkB_leaf 46 r _ (by decide) (by decide) (by decide) (by decide) hl]
  rfl
def nok (r : List UInt8) : Prop := ∀ c s, r = c :: s → okc c = false
theorem takeW (t r : List UInt8) (ht : ∀ c ∈ t, okc c = true) (hr : nok r) : (t ++ r).takeWhile okc = t := by
  induction t with
  | nil =>
    cases r with
    | nil => rfl
    | cons c s => rw [List.nil_append, List.takeWhile_cons, hr c s rfl]; rfl
  | cons c t ih => rw [List.cons_append, List.takeWhile_cons, ht c List.mem_cons_self]; simp [ih fun x hx => ht x (List.mem_cons_of_mem _ hx)]
theorem letter_not {c : UInt8} (h : isL (c.toNat : Int) = true) : isBl c = false ∧ c ≠ 35 ∧ c ≠ 60 ∧ isSg c = false ∧ c ≠ 39 ∧ c ≠ 34 ∧ c ≠ 91 ∧ c ≠ 46 := by
  have : ∀ k : Fin 256, isL (k.val : Int) = true → (isBl (UInt8.ofNat k.val) = false ∧ UInt8.ofNat k.val ≠ 35 ∧ UInt8.ofNat k.val ≠ 60 ∧ isSg (UInt8.ofNat k.val) = false ∧ UInt8.ofNat k.val ≠ 39 ∧ UInt8.ofNat k.val ≠ 34 ∧ UInt8.ofNat k.val ≠ 91 ∧ UInt8.ofNat k.val ≠ 46) := by decide +kernel
  have := this ⟨c.toNat, c.toNat_lt⟩ h
  simpa using this
theorem tkB_name (c : UInt8) (t r : List UInt8) (hc : isL (c.toNat : Int) = true) (ht : ∀ x ∈ c :: t, okc x = true) (hr : nok r) : tkB (c :: t ++ r) = ⟨1, c :: t ++ r, r, lfT 4 (c :: t)⟩ := by
  obtain ⟨h1, h2, h3, h4, h5, h6, h7, h8⟩ := letter_not hc
  have htw := takeW (c :: t) r ht hr
  have hdr : (c :: t ++ r).drop (c :: t).length = r := List.drop_left
  rw [List.cons_append] at htw hdr ⊢
  have hl : leafAt (c :: (t ++ r)) = some (lfT 4 (c :: t), (c :: t).length) := by
    unfold leafAt
    rw [List.headD_cons, if_neg (by rintro (e | e); exact h5 e; exact h6 e), if_neg h7, if_neg h8, if_pos hc, htw]
  rw [tkB_leaf c (t ++ r) _ h1 h2 h3 h4 hl]
  show Tk.mk 1 _ ((c :: (t ++ r)).drop (c :: t).length) _ = _
  rw [hdr]
theorem arr_id (t : Tk) (h3 : t.k ≠ 3) (h : t.k = 1 → t.e.k ≠ 4) : arr t = t := by
  unfold arr; rw [if_neg h3, if_neg (fun h1 => h h1.1 h1.2.1)]
theorem arr_no (t : Tk) (h3 : t.k ≠ 3) (h : ¬ ((skip t.r).headD 0 = 60 ∧ ((skip t.r).drop 1).headD 0 = 45)) : arr t = t := by
  unfold arr; rw [if_neg h3, if_neg (fun h1 => h h1.2.2)]
theorem tok_arr (l : List UInt8) : tok l = arr (tkB l) := rfl
theorem tok_blank (l : List UInt8) : tok (32 :: l) = tok l := by rw [tok_arr, tkB_blank]; rfl
theorem tok_blank10 (l : List UInt8) : tok (10 :: l) = tok l := by unfold tok; rw [skip_blank 10 l rfl]
theorem sg_ne {c : UInt8} (h : isSg c = true) : c ≠ 3 ∧ c ≠ 1 ∧ c ≠ 4 ∧ c ≠ 2 := by
  refine ⟨?_, ?_, ?_, ?_⟩ <;> (intro e; rw [e] at h; revert h; decide)
theorem tok_sign (c : UInt8) (l : List UInt8) (h : isSg c = true) : tok (c :: l) = ⟨c, c :: l, l, nd 0 []⟩ := by
  rw [tok_arr, tkB_sign c l h]
  exact arr_id _ (sg_ne h).1 (fun e => absurd e (sg_ne h).2.1)
theorem tok_cls (S : BitVec 256) (r : List UInt8) : tok (cls S ++ r) = ⟨1, cls S ++ r, r, lfS S⟩ := by
  rw [tok_arr, tkB_cls S r]
  exact arr_id _ (show (1 : UInt8) ≠ 3 from by decide) (fun _ => show (2 : Int) ≠ 4 from by decide)
theorem tok_lit (t r : List UInt8) (h : t ≠ []) : tok (lit t ++ r) = ⟨1, lit t ++ r, r, lfT 3 t⟩ := by
  rw [tok_arr, tkB_lit t r h]
  exact arr_id _ (show (1 : UInt8) ≠ 3 from by decide) (fun _ => show (3 : Int) ≠ 4 from by decide)
theorem tok_dot (r : List UInt8) : tok (46 :: r) = ⟨1, 46 :: r, r, lfS (BitVec.allOnes 256)⟩ := by
  rw [tok_arr, tkB_dot r]
  exact arr_id _ (show (1 : UInt8) ≠ 3 from by decide) (fun _ => show (2 : Int) ≠ 4 from by decide)
/-- An arrow stands there. -/
def Arw (r : List UInt8) : Prop := (skip r).headD 0 = 60 ∧ ((skip r).drop 1).headD 0 = 45
theorem tok_arw {r : List UInt8} (h : Arw r) : (tok r).k = 2 := by
  rw [tok_arr]
  have h0 : skip r ≠ [] := by intro e; unfold Arw at h; rw [e] at h; exact absurd h.1 (by decide)
  have hb : tkB r = ⟨2, skip r, (skip r).drop 2, nd 0 []⟩ := by
    unfold tkB tokB
    rw [if_neg h0, if_pos (show (skip r).headD 0 = 60 ∧ ((skip r).drop 1).headD 0 = 45 from h)]
  rw [hb, arr_id _ (show (2 : UInt8) ≠ 3 from by decide) (fun e => absurd (show (2 : UInt8) = 1 from e) (by decide))]
theorem tok_name (c : UInt8) (t r : List UInt8) (hc : isL (c.toNat : Int) = true) (ht : ∀ x ∈ c :: t, okc x = true) (hr : nok r) (ha : (tok r).k ≠ 2) : tok (c :: t ++ r) = ⟨1, c :: t ++ r, r, lfT 4 (c :: t)⟩ := by
  rw [tok_arr, tkB_name c t r hc ht hr]
  exact arr_no _ (show (1 : UInt8) ≠ 3 from by decide) (fun h => ha (tok_arw h))
theorem tok_head (c : UInt8) (t r : List UInt8) (hc : isL (c.toNat : Int) = true) (ht : ∀ x ∈ c :: t, okc x = true) (hr : nok r) (ha : Arw r) : tok (c :: t ++ r) = ⟨3, c :: t ++ r, (skip r).drop 2, lfT 4 (c :: t)⟩ := by
  rw [tok_arr, tkB_name c t r hc ht hr]
  unfold arr
  rw [if_neg (show ¬ (1 : UInt8) = 3 from by decide), if_pos ⟨rfl, rfl, ha.1, ha.2⟩]
def nokA (r : List UInt8) : Prop := nok r ∧ (tok r).k ≠ 2
def ok3 (r : List UInt8) : Prop := (tok r).k ≠ 4
theorem take_tk {k : UInt8} {s r : List UInt8} {e : Ex} (h : ok3 r) : take ⟨k, s, r, e⟩ = .ok (tok r) := by unfold take; rw [if_neg h]
theorem tok_len (l : List UInt8) : (tok l).s.length ≤ l.length := by unfold tok; rw [tokS_s]; exact (skip_suf l).length_le
theorem ok3_sign (c : UInt8) (l : List UInt8) (h : isSg c = true) : ok3 (c :: l) := by
  unfold ok3; rw [tok_sign c l h]; exact (sg_ne h).2.2.1
/-- How much may be read does not matter, if it is enough. -/
theorem postL_any : ∀ (m k : Nat) (e : Ex) (l : List UInt8), (tok l).s.length ≤ m → (tok l).s.length ≤ k → ok3 l → postL m e (tok l) = postL k e (tok l) := by
  intro m
  induction m with
  | zero =>
    intro k e l h1 h2 h3
    have h0 : (tok l).k = 0 := by
      have : (tok l).s = [] := List.eq_nil_of_length_eq_zero (by omega)
      unfold tok at this ⊢
      rw [tokS_s] at this
      rw [this]; rfl
    have hk : kindB (tok l).k = 0 := by rw [h0]; rfl
    cases k with
    | zero => rfl
    | succ k => rw [postL, postL, if_pos hk]
  | succ m ih =>
    intro k e l h1 h2 h3
    by_cases hk : kindB (tok l).k = 0
    · cases k with
      | zero => rw [postL, postL, if_pos hk]
      | succ k => rw [postL, postL, if_pos hk, if_pos hk]
    · have hof := tok_of l l (List.suffix_refl _) h3
      have h0 := kindB_ne hk
      have hr := hof.r.2.2 h0
      have hp : 1 ≤ (tok l).s.length := by omega
      cases k with
      | zero => omega
      | succ k =>
        rw [postL, postL, if_neg hk, if_neg hk]
        unfold take
        split
        · rfl
        · rename_i h4
          rw [thn_ok, thn_ok]
          have := tok_len (tok l).r
          exact ih k _ _ (by omega) (by omega) h4
/-- Of a way of reading that succeeded the first token begins something. -/
theorem preP_begins {n : Nat} {t : Tk} {x : Ex × Tk} (h : preP n t = .ok x) : begins t.k = true := by
  cases n with
  | zero => cases h
  | succ n =>
    rw [preP] at h
    by_cases h38 : t.k = 38
    · rw [h38]; rfl
    rw [if_neg h38] at h
    by_cases h33 : t.k = 33
    · rw [h33]; rfl
    rw [if_neg h33] at h
    unfold primP at h
    by_cases h1 : t.k = 1
    · rw [h1]; rfl
    rw [if_neg h1] at h
    by_cases h40 : t.k = 40
    · rw [h40]; rfl
    rw [if_neg h40] at h
    cases h
theorem begins_cases {k : UInt8} (h : begins k = true) : k = 1 ∨ k = 40 ∨ k = 38 ∨ k = 33 := by simpa [begins, or_assoc] using h
def pp (pre : Tk → Rs) (t : Tk) : Rs := thn (primP pre t) fun x => postL x.2.s.length x.1 x.2
theorem nd_er (a : Ex) (ha : a.okA = true) (h5 : 5 ≤ a.k) : a.er = nd a.k (a.kids.map Ex.er) := by
  have h := form_rest a (okA_form ha) h5
  rw [er_eq, h.1, h.2]; rfl
theorem leaf_er (a : Ex) (ha : a.okA = true) (h4 : a.k ≤ 4) : a.er = .mk a.k a.S a.t none 0 [] := by
  rw [er_eq, leaf_kids ha h4]; rfl
set_option maxHeartbeats 1000000 in
theorem prim_base (pre : Tk → Rs) (a : Ex) (ha : a.okA = true) (h7 : ¬ (7 ≤ a.k ∧ a.k ≤ 9)) (r : List UInt8) (hr : ok3 r) (hn : nokA r)
    (H0 : (a.k = 5 ∨ a.k = 6 ∨ a.k = 10 ∨ a.k = 11) → altP pre (tok (a.pr ++ 41 :: r)) = .ok (a.er, tok (41 :: r)) ∧ begins (tok (a.pr ++ 41 :: r)).k = true) :
    primP pre (tok (a.bt 3 ++ r)) = .ok (a.er, tok r) := by
  have hf := okA_form ha
  have ht := tight_cases a.k
  have hlf := form_leaf a hf
  by_cases hb : a.k = 5 ∨ a.k = 6 ∨ a.k = 10 ∨ a.k = 11
  · obtain ⟨h1, h2⟩ := H0 hb
    rw [bt_brk 3 a (by omega)]
    have e : [40] ++ a.pr ++ [41] ++ r = 40 :: (a.pr ++ 41 :: r) := by simp
    rw [e, tok_sign 40 _ rfl]
    have h3 : ok3 (a.pr ++ 41 :: r) := by
      unfold ok3
      intro e
      rcases begins_cases h2 with h | h | h | h <;> rw [h] at e <;> revert e <;> decide
    have h41 : ¬ (tok (a.pr ++ 41 :: r)).k = 41 := by
      intro e
      rcases begins_cases h2 with h | h | h | h <;> rw [h] at e <;> revert e <;> decide
    unfold primP
    rw [if_neg (show ¬ (40 : UInt8) = 1 from by decide), if_pos rfl, take_tk h3, thn_ok, if_neg h41, h1, thn_ok]
    simp only
    rw [tok_sign 41 r rfl, if_pos rfl, take_tk hr, thn_ok]
  · rw [bt_pr 3 a (by omega)]
    rcases form_kinds a hf with (⟨h1, _⟩ | ⟨h1, _⟩ | ⟨h1, _, h2⟩ | ⟨h1, _, h2⟩) | ⟨h1, h2, _⟩ | ⟨h1, h2, h3⟩
    · rw [pr_k1 a h1]
      show primP pre (tok (40 :: 41 :: r)) = _
      rw [tok_sign 40 _ rfl]
      unfold primP
      rw [if_neg (show ¬ (40 : UInt8) = 1 from by decide), if_pos rfl, take_tk (ok3_sign 41 r rfl), thn_ok, tok_sign 41 r rfl, if_pos rfl, take_tk hr, thn_ok, leaf_er a ha (by omega), hlf.1 (by omega), hlf.2 (.inl h1), h1]
      rfl
    · rw [pr_k2 a h1]
      have he : a.er = lfS a.S := by rw [leaf_er a ha (by omega), hlf.2 (.inr h1), h1]; rfl
      cases hfl : isFull a.S with
      | true =>
        rw [if_pos rfl]
        show primP pre (tok (46 :: r)) = _
        rw [tok_dot]
        unfold primP
        rw [if_pos rfl, take_tk hr, thn_ok, he, (isFull_iff a.S).1 hfl]
      | false =>
        rw [if_neg (by decide), tok_cls]
        unfold primP
        rw [if_pos rfl, take_tk hr, thn_ok, he]
    · rw [pr_k3 a h1]
      have hne : a.t.data.toList ≠ [] := by
        unfold formOk at hf
        rw [Bool.and_eq_true, Bool.and_eq_true] at hf
        have h3 := hf.1.1
        unfold textOk at h3
        rw [if_pos h1, Bool.and_eq_true] at h3
        intro e
        have : a.t.size = 0 := by rw [← llen, e]; rfl
        rw [this] at h3
        simp at h3
      rw [tok_lit _ r hne]
      unfold primP
      rw [if_pos rfl, take_tk hr, thn_ok, leaf_er a ha (by omega), hlf.1 (by omega), h1]
      show Except.ok (lfT 3 a.t.data.toList, tok r) = _
      unfold lfT
      rw [show (⟨a.t.data.toList.toArray⟩ : ByteArray) = a.t from by cases a.t; rfl]
    · rw [pr_k4 a h1]
      obtain ⟨hall, c, t, hc, hcl⟩ := name_ok a.t (form_name a hf h1)
      rw [hc, tok_name c t r hcl (by rw [← hc]; exact hall) hn.1 hn.2]
      unfold primP
      rw [if_pos rfl, take_tk hr, thn_ok, leaf_er a ha (by omega), hlf.1 (by omega), h1]
      show Except.ok (lfT 4 (c :: t), tok r) = _
      unfold lfT
      rw [← hc, show (⟨a.t.data.toList.toArray⟩ : ByteArray) = a.t from by cases a.t; rfl]
    · omega
    · omega
end Go.Proofs.YtbeohmcmphebhaaGreatDoor
namespace Go.Proofs.YtbeohmcmphebhaaGreatDoor
open Go.RowKit
open Ex.Ou (OuL)
set_option linter.unusedVariables false
theorem u8_eq (a b : UInt8) : ((a.toNat : Int) != (b.toNat : Int)) = decide (a ≠ b) := by
  rw [Bool.eq_iff_iff]
  simp only [bne_iff_ne, ne_eq, decide_eq_true_eq]
  constructor
  · intro h e; exact h (by rw [e])
  · intro h e; exact h (UInt8.toNat_inj.1 (by omega))
set_option maxHeartbeats 1000000 in
theorem want_any (T : ByteArray) (B : Nat) (t : Tk) (c : UInt8) (w : World) (hB : BoxN w B 89 (pcells T t)) :
    Calls Tryz.prog 49 #[.pointer (some ⟨B, 0, none⟩), .int .u8 (c.toNat : Int)] w fun e w' => (if t.k = c then e = .returned (.tuple #[]) else e = thrown T.size t.s) ∧ w' = w := by
  have hc := hB.cell
  rw [pcells_eq] at hc
  have h := u8_eq t.k c
  by_cases hk : t.k = c
  · simp only [if_pos hk]
    rw [decide_eq_false (by simp [hk])] at h
    clear hk hB
    go_enter Tryz.func49, Tryz.ntmps49
    go_wp2_with fail
    refine bodyPost_end (results_none rfl _ _ _) rfl ⟨rfl, rfl⟩
  · simp only [if_neg hk]
    rw [decide_eq_true hk] at h
    clear hk hB
    go_enter Tryz.func49, Tryz.ntmps49
    go_wp2_with fail
    exact ⟨rfl, rfl, rfl⟩
theorem begins_any (c : UInt8) (w : World) : Calls Tryz.prog 109 #[.int .u8 (c.toNat : Int)] w fun e w' => e = .returned (.bool (begins c)) ∧ w' = w := by
  have hc := c.toNat_lt
  have h : begins c = (decide (c.toNat = 1) || (decide (c.toNat = 40) || (decide (c.toNat = 38) || decide (c.toNat = 33)))) := by
    have e : ∀ k : Nat, k < 256 → (c == UInt8.ofNat k) = decide (c.toNat = k) := fun k hk => by
      rw [Bool.eq_iff_iff, beq_iff_eq, decide_eq_true_eq]
      constructor
      · intro e; rw [e]; simp; omega
      · intro e; apply UInt8.toNat_inj.1; rw [e]; simp; omega
    unfold begins
    rw [← e 1 (by omega), ← e 40 (by omega), ← e 38 (by omega), ← e 33 (by omega)]
    simp [Bool.or_assoc]
  rw [h]
  generalize c.toNat = n at *
  clear h
  go_enter Tryz.func109, Tryz.ntmps109
  go_wp2_with fail
  all_goals (go_ret; refine ⟨ret_bool ?_, rfl⟩; try (rw [Bool.eq_iff_iff]; simp; omega))
theorem kindB_any (c : UInt8) (w : World) : Calls Tryz.prog 124 #[.int .u8 (c.toNat : Int)] w fun e w' => e = .returned (.int .i64 (kindB c)) ∧ w' = w := by
  have e : ∀ k : Nat, k < 256 → (c = UInt8.ofNat k ↔ c.toNat = k) := fun k hk => by
    constructor
    · intro e; rw [e]; simp; omega
    · intro e; apply UInt8.toNat_inj.1; rw [e]; simp; omega
  have h : kindB c = if c.toNat = 63 then 9 else if c.toNat = 42 then 7 else if c.toNat = 43 then 8 else 0 := by
    unfold kindB
    have e1 := e 63 (by omega)
    have e2 := e 42 (by omega)
    have e3 := e 43 (by omega)
    simp only [show UInt8.ofNat 63 = 63 from rfl, show UInt8.ofNat 42 = 42 from rfl, show UInt8.ofNat 43 = 43 from rfl] at e1 e2 e3
    simp only [e1, e2, e3]
  rw [h]
  generalize c.toNat = n at *
  clear h e
  by_cases h1 : n = 63
  · subst h1
    go_enter Tryz.func124, Tryz.ntmps124
    go_wp2_with fail
    go_ret
    exact ⟨rfl, rfl⟩
  · have g1 : ((n : Int) == 63) = false := by rw [beq_eq_false_iff_ne]; omega
    rw [if_neg h1]
    by_cases h2 : n = 42
    · subst h2
      go_enter Tryz.func124, Tryz.ntmps124
      go_wp2_with fail
      go_ret
      exact ⟨rfl, rfl⟩
    · have g2 : ((n : Int) == 42) = false := by rw [beq_eq_false_iff_ne]; omega
      rw [if_neg h2]
      by_cases h3 : n = 43
      · subst h3
        go_enter Tryz.func124, Tryz.ntmps124
        go_wp2_with fail
        go_ret
        exact ⟨rfl, rfl⟩
      · have g3 : ((n : Int) == 43) = false := by rw [beq_eq_false_iff_ne]; omega
        rw [if_neg h3]
        go_enter Tryz.func124, Tryz.ntmps124
        go_wp2_with fail
        go_ret
        exact ⟨rfl, rfl⟩
/-- Something that reads as x, and lies in blocks from N on. -/
def Says (N : Nat) (w' : World) (x : Ex) (e : Ending) : Prop := ∃ y : Ex, e = .returned (.agg #[.int .i64 y.k, .int .u64 (wd y.S 0), .int .u64 (wd y.S 1), .int .u64 (wd y.S 2), .int .u64 (wd y.S 3), .string y.t, .slice y.a y.kids.length y.c]) ∧ y.er = x ∧ y.Ou (N ≤ ·) w'
def SaysP (P : Nat → Prop) (w' : World) (x : Ex) (e : Ending) : Prop := ∃ y : Ex, e = .returned (.agg #[.int .i64 y.k, .int .u64 (wd y.S 0), .int .u64 (wd y.S 1), .int .u64 (wd y.S 2), .int .u64 (wd y.S 3), .string y.t, .slice y.a y.kids.length y.c]) ∧ y.er = x ∧ y.Ou P w'
set_option maxHeartbeats 1000000 in
theorem around_gen (P : Nat → Prop) (k : Int) (x : Ex) (w : World) (hP : ∀ b, w.heap.size ≤ b → P b) (hx : x.Ou P w) :
    Calls Tryz.prog 122 #[.int .i64 k, .agg #[.int .i64 x.k, .int .u64 (wd x.S 0), .int .u64 (wd x.S 1), .int .u64 (wd x.S 2), .int .u64 (wd x.S 3), .string x.t, .slice x.a x.kids.length x.c]] w fun e w' => SaysP P w' (nd k [x.er]) e ∧ Below w.heap.size w w' := by
  have hb0 := ((((Below.refl w.heap.size w).alloc (Nat.le_refl _) (.cells x.cells 43)).alloc (by simp) (.cells z7 43)).alloc (by simp; omega) (.cells x.cells 43))
  have bZ := (BoxN.new (w.alloc (.cells x.cells 43)) 43 z7).alloc (.cells x.cells 43)
  have bK := BoxN.new ((w.alloc (.cells x.cells 43)).alloc (.cells z7 43)) 43 x.cells
  have hsz : ((w.alloc (.cells x.cells 43)).alloc (.cells z7 43)).heap.size = w.heap.size + 1 + 1 := by simp
  have hsz1 : (w.alloc (.cells x.cells 43)).heap.size = w.heap.size + 1 := by simp
  rw [hsz] at bK
  rw [hsz1] at bZ
  have HX : Hid (∀ w', Below w.heap.size w w' → BoxN w' (w.heap.size + 1 + 1) 43 x.cells → SaysP P w' (nd k [x.er]) (.returned (.agg #[.int .i64 k, .int .u64 0, .int .u64 0, .int .u64 0, .int .u64 0, .string ⟨#[]⟩, .slice (some ⟨w.heap.size + 1 + 1, 0, none⟩) 1 1]))) := by
    intro w' hb hbx
    refine ⟨.mk k 0#256 ⟨#[]⟩ (some ⟨w.heap.size + 1 + 1, 0, none⟩) 1 [x], by simp [Ex.k, Ex.S, Ex.t, Ex.a, Ex.c, Ex.kids, wd_zero], by rw [er_eq]; rfl, ?_⟩
    rw [Ex.Ou]
    refine ⟨⟨by simp, by decide⟩, ouL_of _ 0 fun j y hy => ?_⟩
    have hj : j = 0 := by
      have := (List.getElem?_eq_some_iff.1 hy).1
      simp at this; exact this
    subst hj
    simp at hy
    subst hy
    refine ⟨⟨_, _, rfl, hP _ (by omega), fun m hm => ?_⟩, hx.below hb (fun _ h => h)⟩
    have := hbx.cell m
    simpa using this
  rw [cells_eq] at bZ bK hb0
  clear hsz hsz1 hx
  go_enter Tryz.func122, Tryz.ntmps122
  go_wp2_with (refine wpList_store_box rfl 43 _ _ rfl (w.heap.size + 1) _ rfl rfl z7 bZ Tryz.info43 rfl (by simp [Value.oneCell']) ?_; intro w2 hx2 hg2; have hc := hx2.cell)
  have hbw2 : Below w.heap.size w w2 := hb0.grown hg2 hb0.size (fun k e => by cases e; omega)
  exact bodyPost_ret (by simp [results, Tryz.results122, go_sem, hc]) rfl ⟨HX.out w2 hbw2 (bK.kept hg2 (by simp)), hbw2⟩
theorem around_any (B : Nat) (k : Int) (x : Ex) (w : World) (hB : B ≤ w.heap.size) (hx : x.Ou (B ≤ ·) w) :
    Calls Tryz.prog 122 #[.int .i64 k, .agg #[.int .i64 x.k, .int .u64 (wd x.S 0), .int .u64 (wd x.S 1), .int .u64 (wd x.S 2), .int .u64 (wd x.S 3), .string x.t, .slice x.a x.kids.length x.c]] w fun e w' => Says B w' (nd k [x.er]) e ∧ Below w.heap.size w w' :=
  around_gen (B ≤ ·) k x w (fun b hb => Nat.le_trans hB hb) hx
/-- A slice of expressions that lies in blocks from B on. -/
def KL (B : Nat) (W : World) (g cap : Nat) (l : List Ex) : Prop := B ≤ g ∧ l.length ≤ 2000000 ∧ ∀ j x, l[j]? = some x → (∀ m, m < 7 → W.cell? ⟨g, j * 7 + m, none⟩ = x.cells[m]?) ∧ x.Ou (B ≤ ·) W
theorem KL.ex {B : Nat} {W : World} {g cap : Nat} {l : List Ex} (h : KL B W g cap l) (k : Int) : (Ex.mk k 0#256 ⟨#[]⟩ (some ⟨g, 0, none⟩) cap l).Ou (B ≤ ·) W := by
  rw [Ex.Ou]
  refine ⟨⟨by have := h.2.1; omega, by decide⟩, ouL_of _ 0 fun j x hx => ?_⟩
  have := h.2.2 j x hx
  exact ⟨⟨g, 0, rfl, h.1, fun m hm => by rw [← this.1 m hm]; congr 2; omega⟩, this.2⟩
set_option maxHeartbeats 1000000 in
theorem together_any (B : Nat) (k : Int) (g cap : Nat) (l : List Ex) (w : World) (hB : B ≤ w.heap.size) (hl : KL B w g cap l) (h1 : 1 ≤ l.length) :
    Calls Tryz.prog 95 #[.int .i64 k, .slice (some ⟨g, 0, none⟩) l.length cap] w fun e w' => Says B w' (gath k (l.map Ex.er)) e ∧ Below w.heap.size w w' := by
  have hb0 := (Below.refl w.heap.size w).alloc (Nat.le_refl _) (.cells z7 43)
  have bZ := BoxN.new w 43 z7
  have hmax := hl.2.1
  by_cases hone : l.length = 1
  · obtain ⟨x, rfl⟩ : ∃ x, l = [x] := by
      match l, hone with
      | [x], _ => exact ⟨x, rfl⟩
    have hx := hl.2.2 0 x rfl
    have hgl : g < w.heap.size := by
      obtain ⟨v, hv⟩ := cells7 x 0 (by omega)
      exact cell_lt ((hx.1 0 (by omega)).trans hv)
    have HX : Hid (∀ w', Below w.heap.size w w' → Says B w' (gath k ([x].map Ex.er)) (.returned (.agg #[.int .i64 x.k, .int .u64 (wd x.S 0), .int .u64 (wd x.S 1), .int .u64 (wd x.S 2), .int .u64 (wd x.S 3), .string x.t, .slice x.a x.kids.length x.c]))) :=
      fun w' hb => ⟨x, rfl, rfl, hx.2.below hb (fun _ h => h)⟩
    have hcx : ∀ m, m < 7 → (w.alloc (.cells z7 43)).cell? ⟨g, m, none⟩ = x.cells[m]? := fun m hm => by
      rw [hb0.cell (p := ⟨g, m, none⟩) hgl]
      have := hx.1 m hm
      simpa using this
    have c0 := hcx 0 (by omega)
    have c1 := hcx 1 (by omega)
    have c2 := hcx 2 (by omega)
    have c3 := hcx 3 (by omega)
    have c4 := hcx 4 (by omega)
    have c5 := hcx 5 (by omega)
    have c6 := hcx 6 (by omega)
    simp only [cells_eq] at c0 c1 c2 c3 c4 c5 c6
    simp only [List.getElem?_toArray, List.getElem?_cons_zero, List.getElem?_cons_succ, z7_eq] at c0 c1 c2 c3 c4 c5 c6
    clear hcx hx hl h1 hone hmax
    rw [show ([x] : List Ex).length = 1 from rfl]
    go_enter Tryz.func95, Tryz.ntmps95
    go_wp2_with (refine wpList_store_box rfl 43 _ _ rfl w.heap.size _ rfl rfl z7 bZ Tryz.info43 rfl (by simp [Value.oneCell']) ?_; intro w2 hx2 hg2; have hc := hx2.cell)
    have hbw2 : Below w.heap.size w w2 := hb0.grown hg2 hb0.size (fun k e => by cases e; omega)
    exact bodyPost_ret (by simp [results, Tryz.results95, go_sem, hc]) rfl ⟨HX.out w2 hbw2, hbw2⟩
  · have HX : Hid (∀ w', Below w.heap.size w w' → Says B w' (gath k (l.map Ex.er)) (.returned (.agg #[.int .i64 k, .int .u64 0, .int .u64 0, .int .u64 0, .int .u64 0, .string ⟨#[]⟩, .slice (some ⟨g, 0, none⟩) l.length cap]))) :=
      fun w' hb => ⟨.mk k 0#256 ⟨#[]⟩ (some ⟨g, 0, none⟩) cap l, by simp [Ex.k, Ex.S, Ex.t, Ex.a, Ex.c, Ex.kids, wd_zero], by
        rw [er_eq]
        unfold gath
        rw [if_neg (by simpa using hone)]
        rfl, (hl.ex k).below hb (fun _ h => h)⟩
    have g1 : ((l.length : Int) == 1) = false := by rw [beq_eq_false_iff_ne]; omega
    clear hl
    go_enter Tryz.func95, Tryz.ntmps95
    go_wp2_with (refine wpList_store_box rfl 43 _ _ rfl w.heap.size _ rfl rfl z7 bZ Tryz.info43 rfl (by simp [Value.oneCell']) ?_; intro w2 hx2 hg2; have hc := hx2.cell)
    have hbw2 : Below w.heap.size w w2 := hb0.grown hg2 hb0.size (fun k e => by cases e; omega)
    exact bodyPost_ret (by simp [results, Tryz.results95, go_sem, hc]) rfl ⟨HX.out w2 hbw2, hbw2⟩
end Go.Proofs.YtbeohmcmphebhaaGreatDoor
