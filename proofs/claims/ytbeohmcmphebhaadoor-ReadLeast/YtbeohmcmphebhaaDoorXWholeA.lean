import Derived.Test.YtbeohmcmphebhaaDoorXPs
import Derived.Test.YtbeohmcmphebhaaDoorXApartD
import Derived.Test.YtbeohmcmphebhaaDoorXLeaf
import Derived.Test.YtbeohmcmphebhaaDoorXFull
import Derived.Test.YtbeohmcmphebhaaDoorXParH
import Derived.Defers
import Derived.Recover
namespace Go.Proofs.YtbeohmcmphebhaaDoor
set_option linter.unusedVariables false
/-! What is printed is read as it was. -/
theorem skip_cons (c : UInt8) (l : List UInt8) (hb : isBl c = false) (h35 : c ≠ 35) : skip (c :: l) = c :: l := by
  have hd : (c :: l).dropWhile isBl = c :: l := by rw [List.dropWhile_cons, hb]; rfl
  rw [skip_no _ (by rw [hd]; exact h35), hd]
theorem skip_blank (c : UInt8) (l : List UInt8) (hb : isBl c = true) : skip (c :: l) = skip l := by
  rw [skip_D, skip_D, List.dropWhile_cons, hb]; rfl
theorem tkB_blank (l : List UInt8) : tkB (32 :: l) = tkB l := by unfold tkB; rw [skip_blank 32 l rfl]
theorem tkB_sign (c : UInt8) (l : List UInt8) (h : isSg c = true) : tkB (c :: l) = ⟨c, c :: l, l, nd 0 []⟩ := by
  have hc : c = 40 ∨ c = 41 ∨ c = 47 ∨ c = 38 ∨ c = 33 ∨ c = 63 ∨ c = 42 ∨ c = 43 := by simpa [isSg, or_assoc] using h
  have h1 : isBl c = false ∧ c ≠ 35 ∧ c ≠ 60 := by
    rcases hc with rfl | rfl | rfl | rfl | rfl | rfl | rfl | rfl <;> decide
  unfold tkB
  rw [skip_cons c l h1.1 h1.2.1]
  unfold tokB
  rw [if_neg (by simp), if_neg (by rintro ⟨h2, _⟩; exact h1.2.2 h2), List.headD_cons, if_pos h]
  rfl
theorem tkB_leaf (c : UInt8) (l : List UInt8) (x : Ex × Nat) (hb : isBl c = false) (h35 : c ≠ 35) (h60 : c ≠ 60) (hs : isSg c = false) (hl : leafAt (c :: l) = some x) : tkB (c :: l) = ⟨1, c :: l, (c :: l).drop x.2, x.1⟩ := by
  unfold tkB
  rw [skip_cons c l hb h35]
  unfold tokB
  rw [if_neg (by simp), if_neg (by rintro ⟨h2, _⟩; exact h60 h2), List.headD_cons, if_neg (by rw [hs]; decide), hl]
theorem tkB_cls (S : BitVec 256) (r : List UInt8) : tkB (cls S ++ r) = ⟨1, cls S ++ r, r, lfS S⟩ := by
  obtain ⟨q, hq⟩ : ∃ q, cls S ++ r = 91 :: q := ⟨_, by unfold cls; rw [List.cons_append]⟩
  have hub := unclass_back S r
  have hdr : (cls S ++ r).drop (cls S).length = r := List.drop_left
  rw [hq] at hub hdr ⊢
  have hl : leafAt (91 :: q) = some (lfS S, (cls S).length) := by
    unfold leafAt
    rw [List.headD_cons, if_neg (by decide), if_pos rfl, hub]
    rfl
  rw [tkB_leaf 91 q _ (by decide) (by decide) (by decide) (by decide) hl]
  show Tk.mk 1 (91 :: q) ((91 :: q).drop (cls S).length) (lfS S) = _
  rw [hdr]
theorem tkB_lit (t r : List UInt8) (h : t ≠ []) : tkB (lit t ++ r) = ⟨1, lit t ++ r, r, lfT 3 t⟩ := by
  obtain ⟨q, hq⟩ : ∃ q, lit t ++ r = 39 :: q := ⟨_, by unfold lit; rw [List.cons_append]⟩
  have hub := unlit_back t r
  have hdr : (lit t ++ r).drop (lit t).length = r := List.drop_left
  rw [hq] at hub hdr ⊢
  have hl : leafAt (39 :: q) = some (lfT 3 t, (lit t).length) := by
    unfold leafAt
    rw [List.headD_cons, if_pos (.inl rfl), hub]
    show some ((if t = [] then nd 1 [] else lfT 3 t), (lit t).length) = _
    rw [if_neg h]
  rw [tkB_leaf 39 q _ (by decide) (by decide) (by decide) (by decide) hl]
  show Tk.mk 1 (39 :: q) ((39 :: q).drop (lit t).length) (lfT 3 t) = _
  rw [hdr]
theorem tkB_dot (r : List UInt8) : tkB (46 :: r) = ⟨1, 46 :: r, r, lfS (BitVec.allOnes 256)⟩ := by
  have hl : leafAt (46 :: r) = some (lfS (BitVec.allOnes 256), 1) := by
    unfold leafAt
    rw [List.headD_cons, if_neg (by decide), if_neg (by decide), if_pos rfl]
  rw [tkB_leaf 46 r _ (by decide) (by decide) (by decide) (by decide) hl]
  rfl
def nok (r : List UInt8) : Prop := ∀ c s, r = c :: s → okc c = false
theorem takeW (t r : List UInt8) (ht : ∀ c ∈ t, okc c = true) (hr : nok r) : (t ++ r).takeWhile okc = t := by
  induction t with
  | nil =>
    cases r with
    | nil => rfl
    | cons c s => rw [List.nil_append, List.takeWhile_cons, hr c s rfl]; rfl
  | cons c t ih => rw [List.cons_append, List.takeWhile_cons, ht c List.mem_cons_self]; simp [ih fun x hx => ht x (List.mem_cons_of_mem _ hx)]
theorem letter_not {c : UInt8} (h : isL (c.toNat : Int) = true) : isBl c = false ∧ c ≠ 35 ∧ c ≠ 60 ∧ isSg c = false ∧ c ≠ 39 ∧ c ≠ 34 ∧ c ≠ 91 ∧ c ≠ 46 := by
  have : ∀ k : Fin 256, isL (k.val : Int) = true → (isBl (UInt8.ofNat k.val) = false ∧ UInt8.ofNat k.val ≠ 35 ∧ UInt8.ofNat k.val ≠ 60 ∧ isSg (UInt8.ofNat k.val) = false ∧ UInt8.ofNat k.val ≠ 39 ∧ UInt8.ofNat k.val ≠ 34 ∧ UInt8.ofNat k.val ≠ 91 ∧ UInt8.ofNat k.val ≠ 46) := by decide +kernel
  have := this ⟨c.toNat, c.toNat_lt⟩ h
  simpa using this
theorem tkB_name (c : UInt8) (t r : List UInt8) (hc : isL (c.toNat : Int) = true) (ht : ∀ x ∈ c :: t, okc x = true) (hr : nok r) : tkB (c :: t ++ r) = ⟨1, c :: t ++ r, r, lfT 4 (c :: t)⟩ := by
  obtain ⟨h1, h2, h3, h4, h5, h6, h7, h8⟩ := letter_not hc
  have htw := takeW (c :: t) r ht hr
  have hdr : (c :: t ++ r).drop (c :: t).length = r := List.drop_left
  rw [List.cons_append] at htw hdr ⊢
  have hl : leafAt (c :: (t ++ r)) = some (lfT 4 (c :: t), (c :: t).length) := by
    unfold leafAt
    rw [List.headD_cons, if_neg (by rintro (e | e); exact h5 e; exact h6 e), if_neg h7, if_neg h8, if_pos hc, htw]
  rw [tkB_leaf c (t ++ r) _ h1 h2 h3 h4 hl]
  show Tk.mk 1 _ ((c :: (t ++ r)).drop (c :: t).length) _ = _
  rw [hdr]
theorem tok_arr (l : List UInt8) : tok l = arr (tkB l) := rfl
theorem tok_blank (l : List UInt8) : tok (32 :: l) = tok l := by rw [tok_arr, tkB_blank]; rfl
theorem sg_ne {c : UInt8} (h : isSg c = true) : c ≠ 3 ∧ c ≠ 4 := by
  refine ⟨?_, ?_⟩ <;> (intro e; rw [e] at h; revert h; decide)
theorem tok_sign (c : UInt8) (l : List UInt8) (h : isSg c = true) : tok (c :: l) = ⟨c, c :: l, l, nd 0 []⟩ := by
  rw [tok_arr, tkB_sign c l h]
  exact arr_no _ (sg_ne h).1
theorem tok_leaf (c : UInt8) (l : List UInt8) (x : Ex × Nat) (hb : isBl c = false) (h35 : c ≠ 35) (h60 : c ≠ 60) (hs : isSg c = false) (hl : leafAt (c :: l) = some x) : tok (c :: l) = ⟨1, c :: l, (c :: l).drop x.2, x.1⟩ := by
  rw [tok_arr, tkB_leaf c l x hb h35 h60 hs hl]
  exact arr_no _ (show (1 : UInt8) ≠ 3 from by decide)
theorem tok_cls (S : BitVec 256) (r : List UInt8) : tok (cls S ++ r) = ⟨1, cls S ++ r, r, lfS S⟩ := by
  rw [tok_arr, tkB_cls S r]
  exact arr_no _ (show (1 : UInt8) ≠ 3 from by decide)
theorem tok_lit (t r : List UInt8) (h : t ≠ []) : tok (lit t ++ r) = ⟨1, lit t ++ r, r, lfT 3 t⟩ := by
  rw [tok_arr, tkB_lit t r h]
  exact arr_no _ (show (1 : UInt8) ≠ 3 from by decide)
theorem tok_dot (r : List UInt8) : tok (46 :: r) = ⟨1, 46 :: r, r, lfS (BitVec.allOnes 256)⟩ := by
  rw [tok_arr, tkB_dot r]
  exact arr_no _ (show (1 : UInt8) ≠ 3 from by decide)
theorem tok_name (c : UInt8) (t r : List UInt8) (hc : isL (c.toNat : Int) = true) (ht : ∀ x ∈ c :: t, okc x = true) (hr : nok r) : tok (c :: t ++ r) = ⟨1, c :: t ++ r, r, lfT 4 (c :: t)⟩ := by
  rw [tok_arr, tkB_name c t r hc ht hr]
  exact arr_no _ (show (1 : UInt8) ≠ 3 from by decide)
def ok3 (r : List UInt8) : Prop := (tok r).k ≠ 4
theorem take_tk {k : UInt8} {s r : List UInt8} {e : Ex} (h : ok3 r) : take ⟨k, s, r, e⟩ = .ok (tok r) := by unfold take; rw [if_neg h]
theorem tok_len (l : List UInt8) : (tok l).s.length ≤ l.length := by unfold tok; rw [tokS_s]; exact (skip_suf l).length_le
theorem ok3_sign (c : UInt8) (l : List UInt8) (h : isSg c = true) : ok3 (c :: l) := by
  unfold ok3; rw [tok_sign c l h]; exact (sg_ne h).2
/-- How much may be read does not matter, if it is enough. -/
theorem postL_any : ∀ (m k : Nat) (e : Ex) (l : List UInt8), (tok l).s.length ≤ m → (tok l).s.length ≤ k → ok3 l → postL m e (tok l) = postL k e (tok l) := by
  intro m
  induction m with
  | zero =>
    intro k e l h1 h2 h3
    have h0 : (tok l).k = 0 := by
      have : (tok l).s = [] := List.eq_nil_of_length_eq_zero (by omega)
      unfold tok at this ⊢
      rw [tokS_s] at this
      rw [this]; rfl
    have hk : kindB (tok l).k = 0 := by rw [h0]; rfl
    cases k with
    | zero => rfl
    | succ k => rw [postL, postL, if_pos hk]
  | succ m ih =>
    intro k e l h1 h2 h3
    by_cases hk : kindB (tok l).k = 0
    · cases k with
      | zero => rw [postL, postL, if_pos hk]
      | succ k => rw [postL, postL, if_pos hk, if_pos hk]
    · have hof := tok_of l l (List.suffix_refl _) h3
      have h0 := kindB_ne hk
      have hr := hof.r.2.2 h0
      have hp : 1 ≤ (tok l).s.length := by omega
      cases k with
      | zero => omega
      | succ k =>
        rw [postL, postL, if_neg hk, if_neg hk]
        unfold take
        split
        · rfl
        · rename_i h4
          rw [thn_ok, thn_ok]
          have := tok_len (tok l).r
          exact ih k _ _ (by omega) (by omega) h4
/-- Of a way of reading that succeeded the first token begins something. -/
theorem preP_begins {n : Nat} {t : Tk} {x : Ex × Tk} (h : preP n t = .ok x) : begins t.k = true := by
  cases n with
  | zero => cases h
  | succ n =>
    rw [preP] at h
    by_cases h38 : t.k = 38
    · rw [h38]; rfl
    rw [if_neg h38] at h
    by_cases h33 : t.k = 33
    · rw [h33]; rfl
    rw [if_neg h33] at h
    unfold primP at h
    by_cases h1 : t.k = 1
    · rw [h1]; rfl
    rw [if_neg h1] at h
    by_cases h40 : t.k = 40
    · rw [h40]; rfl
    rw [if_neg h40] at h
    cases h
theorem begins_cases {k : UInt8} (h : begins k = true) : k = 1 ∨ k = 40 ∨ k = 38 ∨ k = 33 := by simpa [begins, or_assoc] using h
def pp (pre : Tk → Rs) (t : Tk) : Rs := thn (primP pre t) fun x => postL x.2.s.length x.1 x.2
theorem nd_er (a : Ex) (ha : a.okA = true) (h5 : 5 ≤ a.k) : a.er = nd a.k (a.kids.map Ex.er) := by
  have h := form_rest a (okA_form ha) h5
  rw [er_eq, h.1, h.2]; rfl
theorem leaf_er (a : Ex) (ha : a.okA = true) (h4 : a.k ≤ 4) : a.er = .mk a.k a.S a.t none 0 [] := by
  rw [er_eq, leaf_kids ha h4]; rfl
set_option maxHeartbeats 1000000 in
theorem prim_base (pre : Tk → Rs) (a : Ex) (ha : a.okA = true) (h7 : ¬ (7 ≤ a.k ∧ a.k ≤ 9)) (r : List UInt8) (hr : ok3 r) (hn : nok r)
    (H0 : (a.k = 5 ∨ a.k = 6 ∨ a.k = 10 ∨ a.k = 11) → altP pre (tok (a.pr ++ 41 :: r)) = .ok (a.er, tok (41 :: r)) ∧ begins (tok (a.pr ++ 41 :: r)).k = true) :
    primP pre (tok (a.bt 3 ++ r)) = .ok (a.er, tok r) := by
  have hf := okA_form ha
  have ht := tight_cases a.k
  have hlf := form_leaf a hf
  by_cases hb : a.k = 5 ∨ a.k = 6 ∨ a.k = 10 ∨ a.k = 11
  · obtain ⟨h1, h2⟩ := H0 hb
    rw [bt_brk 3 a (by omega)]
    have e : [40] ++ a.pr ++ [41] ++ r = 40 :: (a.pr ++ 41 :: r) := by simp
    rw [e, tok_sign 40 _ rfl]
    have h3 : ok3 (a.pr ++ 41 :: r) := by
      unfold ok3
      intro e
      rcases begins_cases h2 with h | h | h | h <;> rw [h] at e <;> revert e <;> decide
    have h41 : ¬ (tok (a.pr ++ 41 :: r)).k = 41 := by
      intro e
      rcases begins_cases h2 with h | h | h | h <;> rw [h] at e <;> revert e <;> decide
    unfold primP
    rw [if_neg (show ¬ (40 : UInt8) = 1 from by decide), if_pos rfl, take_tk h3, thn_ok, if_neg h41, h1, thn_ok]
    simp only
    rw [tok_sign 41 r rfl, if_pos rfl, take_tk hr, thn_ok]
  · rw [bt_pr 3 a (by omega)]
    rcases form_kinds a hf with (⟨h1, _⟩ | ⟨h1, _⟩ | ⟨h1, _, h2⟩ | ⟨h1, _, h2⟩) | ⟨h1, h2, _⟩ | ⟨h1, h2, h3⟩
    · rw [pr_k1 a h1]
      show primP pre (tok (40 :: 41 :: r)) = _
      rw [tok_sign 40 _ rfl]
      unfold primP
      rw [if_neg (show ¬ (40 : UInt8) = 1 from by decide), if_pos rfl, take_tk (ok3_sign 41 r rfl), thn_ok, tok_sign 41 r rfl, if_pos rfl, take_tk hr, thn_ok, leaf_er a ha (by omega), hlf.1 (by omega), hlf.2 (.inl h1), h1]
      rfl
    · rw [pr_k2 a h1]
      have he : a.er = lfS a.S := by rw [leaf_er a ha (by omega), hlf.2 (.inr h1), h1]; rfl
      cases hfl : isFull a.S with
      | true =>
        rw [if_pos rfl]
        show primP pre (tok (46 :: r)) = _
        rw [tok_dot]
        unfold primP
        rw [if_pos rfl, take_tk hr, thn_ok, he, (isFull_iff a.S).1 hfl]
      | false =>
        rw [if_neg (by decide), tok_cls]
        unfold primP
        rw [if_pos rfl, take_tk hr, thn_ok, he]
    · rw [pr_k3 a h1]
      have hne : a.t.data.toList ≠ [] := by
        unfold formOk at hf
        rw [Bool.and_eq_true, Bool.and_eq_true] at hf
        have h3 := hf.1.1
        unfold textOk at h3
        rw [if_pos h1, Bool.and_eq_true] at h3
        intro e
        have : a.t.size = 0 := by rw [← llen, e]; rfl
        rw [this] at h3
        simp at h3
      rw [tok_lit _ r hne]
      unfold primP
      rw [if_pos rfl, take_tk hr, thn_ok, leaf_er a ha (by omega), hlf.1 (by omega), h1]
      show Except.ok (lfT 3 a.t.data.toList, tok r) = _
      unfold lfT
      rw [show (⟨a.t.data.toList.toArray⟩ : ByteArray) = a.t from by cases a.t; rfl]
    · rw [pr_k4 a h1]
      obtain ⟨hall, c, t, hc, hcl⟩ := name_ok a.t (form_name a hf h1)
      rw [hc, tok_name c t r hcl (by rw [← hc]; exact hall) hn]
      unfold primP
      rw [if_pos rfl, take_tk hr, thn_ok, leaf_er a ha (by omega), hlf.1 (by omega), h1]
      show Except.ok (lfT 4 (c :: t), tok r) = _
      unfold lfT
      rw [← hc, show (⟨a.t.data.toList.toArray⟩ : ByteArray) = a.t from by cases a.t; rfl]
    · omega
    · omega
end Go.Proofs.YtbeohmcmphebhaaDoor
namespace Go.Proofs.YtbeohmcmphebhaaDoor
open Go.RowKit
set_option linter.unusedVariables false
theorem pre_does (T : ByteArray) (B : Nat) (hT : T.size ≤ 1000000) : ∀ n, Does T B 52 n (preP n) := by
  intro n
  induction n with
  | zero => intro t w _ h; omega
  | succ n ih =>
    intro t w ht hn hB
    rw [preP]
    split
    · rename_i h; exact pre_and T B n hT ih t w ht hn hB h
    split
    · rename_i h; exact pre_not T B n hT ih t w ht hn hB h
    · rename_i h1 h2
      have hg := preP_fine (T := T.data.toList) n
      exact pre_post T B n hT (prim_does T B n (preP n) hT (altP_fine hg) (alt_does T B n (preP n) hT hg (seq_does T B n (preP n) hT hg ih))) t w ht hn hB h1 h2
theorem altp_does (T : ByteArray) (B : Nat) (hT : T.size ≤ 1000000) (n : Nat) : Does T B 15 n (altP (preP n)) :=
  alt_does T B n (preP n) hT (preP_fine n) (seq_does T B n (preP n) hT (preP_fine n) (pre_does T B hT n))
theorem ta_yes (v : Value) (w : World) : (Instr.typeAssert (.iface 55 v) 20 55 true).run Tryd.prog w = .ok (.tuple #[v, .bool true]) w := by
  have h := Tryd.underlying55
  simp [Instr.typeAssert, run_underlying h, go_sem, Result.andThen]
theorem ta_no (w : World) : (Instr.typeAssert .nilIface 20 55 true).run Tryd.prog w = .ok (.tuple #[.agg #[.int .i64 0], .bool false]) w := by
  have h := Tryd.underlying55
  simp [Instr.typeAssert, run_underlying h, go_sem, Result.andThen]
theorem ntmps47 : Tryd.f23.ntmps = 12 := Tryd.ntmps23
set_option maxRecDepth 20000 in
theorem catch_panicking (p q : Nat) (a : Int) (w : World) (x y : Int) (hp : BoxN w p 3 #[.int .i64 x]) (hq : BoxN w q 28 #[.int .i64 y]) (hne : q ≠ p) :
    CallsD Tryd.prog 23 #[.pointer (some ⟨p, 0, none⟩), .pointer (some ⟨q, 0, none⟩)] (.panicking [{ v := .iface 55 (.agg #[.int .i64 a]), recovered := false }]) w fun e u' w' =>
      e = .returned (.tuple #[]) ∧ u' = .panicking [{ v := .iface 55 (.agg #[.int .i64 a]), recovered := true }] ∧ w' = ((w.alloc (.cells #[.int .i64 a] 55)).setCell ⟨p, 0, none⟩ (.int .i64 a)).setCell ⟨q, 0, none⟩ (.int .i64 4) := by
  have hA := (Below.refl w.heap.size w).alloc (Nat.le_refl _) (.cells #[.int .i64 a] 55)
  have hpc : (w.alloc (.cells #[.int .i64 a] 55)).cell? ⟨p, 0, none⟩ = some (.int .i64 x) := (hA.cell (p := ⟨p, 0, none⟩) hp.lt).trans (hp.cell 0)
  have hpf : (w.alloc (.cells #[.int .i64 a] 55)).frozen? ⟨p, 0, none⟩ = false := (hA.frozen (p := ⟨p, 0, none⟩) hp.lt).trans (hp.frozen 0)
  have hta := ta_yes (.agg #[.int .i64 a])
  have hpl : ¬ p = w.heap.size := by have := hp.lt; omega
  have hqc : ((w.alloc (.cells #[.int .i64 a] 55)).setCell ⟨p, 0, none⟩ (.int .i64 a)).cell? ⟨q, 0, none⟩ = some (.int .i64 y) := by
    have h1 : ((w.alloc (.cells #[.int .i64 a] 55)).setCell ⟨p, 0, none⟩ (.int .i64 a)).heap[q]? = (w.alloc (.cells #[.int .i64 a] 55)).heap[q]? := Below.heap_setCell _ _ _ _ hne
    rw [World.cell?_of_block (w := w.alloc (.cells #[.int .i64 a] 55)) (a := ⟨q, 0, none⟩) h1]
    exact (hA.cell (p := ⟨q, 0, none⟩) hq.lt).trans (hq.cell 0)
  have hqf : ((w.alloc (.cells #[.int .i64 a] 55)).setCell ⟨p, 0, none⟩ (.int .i64 a)).frozen? ⟨q, 0, none⟩ = false := by
    have h1 : ((w.alloc (.cells #[.int .i64 a] 55)).setCell ⟨p, 0, none⟩ (.int .i64 a)).heap[q]? = (w.alloc (.cells #[.int .i64 a] 55)).heap[q]? := Below.heap_setCell _ _ _ _ hne
    rw [World.frozen?_of_block (w := w.alloc (.cells #[.int .i64 a] 55)) (a := ⟨q, 0, none⟩) h1]
    exact (hA.frozen (p := ⟨q, 0, none⟩) hq.lt).trans (hq.frozen 0)
  clear hA
  refine callsD_of_wpS Tryd.func23 rfl fun c₀ cs hu => ?_
  simp only [Tryd.ntmps23, List.size_toArray, List.length_cons, List.length_nil, Nat.reduceAdd, Nat.reduceSub, Array.replicate_succ, Array.replicate_zero, List.push_toArray, List.append_toArray, List.nil_append, List.cons_append]
  apply wpS_seq
  apply wpS_region
  simp [wpOpsS, go_sem, recoverD, hu, Exit.thenS, hta]
  apply wpS_seq
  apply wpS_region
  simp [wpOpsS, go_sem, Exit.thenS]
  refine wpS_cond (t := true) (by simp [Act.eval]) ?_
  simp only [if_true]
  apply wpS_region
  simp [wpOpsS, go_sem, hpc, hpf, hqc, hqf, bodyPostS, results, Tryd.results23]
theorem catch_idle (p q : Value) (w : World) :
    CallsD Tryd.prog 23 #[p, q] .returning w fun e u' w' => e = .returned (.tuple #[]) ∧ u' = .returning ∧ w' = w.alloc (.cells #[.int .i64 0] 55) := by
  have hta := ta_no
  refine callsD_of_wpS Tryd.func23 rfl fun c₀ cs hu => ?_
  simp only [Tryd.ntmps23, List.size_toArray, List.length_cons, List.length_nil, Nat.reduceAdd, Nat.reduceSub, Array.replicate_succ, Array.replicate_zero, List.push_toArray, List.append_toArray, List.nil_append, List.cons_append]
  apply wpS_seq
  apply wpS_region
  simp [wpOpsS, go_sem, recoverD, hu, Exit.thenS, hta]
  apply wpS_seq
  apply wpS_region
  simp [wpOpsS, go_sem, Exit.thenS]
  refine wpS_cond (t := false) (by simp [Act.eval]) ?_
  simp only [Bool.false_eq_true, if_false]
  refine wpS_of_wp (wp_skip ?_)
  cases c₀
  simp_all [bodyPostS, results, Tryd.results23]
/-- What is kept, and what is laid, where a fault was caught. -/
def Caught (p q : Nat) (a : Int) (w w' : World) : Prop := BoxN w' p 3 #[.int .i64 a] ∧ BoxN w' q 28 #[.int .i64 4] ∧ (∀ B t cs, BoxN w B t cs → B ≠ p → B ≠ q → BoxN w' B t cs) ∧ (∀ n w0, n ≤ p → n ≤ q → n ≤ w.heap.size → Below n w0 w → Below n w0 w')
theorem setCell_box {W : World} {B : Nat} {t : TypeId} {v u : Value} (h : BoxN W B t #[v]) : BoxN (W.setCell ⟨B, 0, none⟩ u) B t #[u] := by
  have := setCell_eq_setRow W B 0 #[v] t (0, 0) u h
  rw [this]
  exact (grown_row (cs := #[u]) h).1
theorem box_other {W : World} {B B' : Nat} {t : TypeId} {cs : Array Value} (u : Value) (h : BoxN W B t cs) (hne : B ≠ B') : BoxN (W.setCell ⟨B', 0, none⟩ u) B t cs := (Below.heap_setCell W ⟨B', 0, none⟩ u B hne).trans h
theorem catch_box (p q : Nat) (a : Int) (w : World) (x y : Int) (hp : BoxN w p 3 #[.int .i64 x]) (hq : BoxN w q 28 #[.int .i64 y]) (hne : q ≠ p) :
    CallsD Tryd.prog 23 #[.pointer (some ⟨p, 0, none⟩), .pointer (some ⟨q, 0, none⟩)] (.panicking [{ v := .iface 55 (.agg #[.int .i64 a]), recovered := false }]) w fun e u' w' =>
      e = .returned (.tuple #[]) ∧ u' = .panicking [{ v := .iface 55 (.agg #[.int .i64 a]), recovered := true }] ∧ Caught p q a w w' := by
  refine (catch_panicking p q a w x y hp hq hne).mono ?_
  rintro e u' w' ⟨h1, h2, rfl⟩
  refine ⟨h1, h2, box_other _ (setCell_box (hp.alloc _)) (fun e => hne e.symm), setCell_box (box_other _ (hq.alloc _) hne), fun B t cs h hb1 hb2 => box_other _ (box_other _ (h.alloc _) hb1) hb2, fun n w0 h1 h2 h3 hb => ?_⟩
  exact ((hb.alloc h3 _).setCell h1 _).setCell h2 _
end Go.Proofs.YtbeohmcmphebhaaDoor
