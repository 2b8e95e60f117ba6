import Derived.Test.YtbeohmcmphebhaaDoorXCnt
import Derived.Test.YtbeohmcmphebhaaDoorXRBb
namespace Go.Proofs.YtbeohmcmphebhaaDoor
set_option linter.unusedVariables false
open Ex.nb (nbL)
open Ex.lv (lvL)
open Ex.pr (prKs)
/-! A printed text in which brackets are left out, piece by piece. -/
def Chg : List UInt8 → List UInt8 → Prop
  | [], [] => True
  | a :: l, b :: m => (b = a ∨ b = 32 ∧ (a = 40 ∨ a = 41)) ∧ Chg l m
  | _, _ => False
theorem Chg.nil {x : List UInt8} (h : Chg [] x) : x = [] := by
  cases x with
  | nil => rfl
  | cons b m => exact h.elim
theorem Chg.cons {a : UInt8} {l x : List UInt8} (h : Chg (a :: l) x) : ∃ b m, x = b :: m ∧ (b = a ∨ b = 32 ∧ (a = 40 ∨ a = 41)) ∧ Chg l m := by
  cases x with
  | nil => exact h.elim
  | cons b m => exact ⟨b, m, rfl, h⟩
theorem Chg.app : ∀ (x : List UInt8) {y z : List UInt8}, Chg (x ++ y) z → ∃ x' y', z = x' ++ y' ∧ Chg x x' ∧ Chg y y'
  | [], y, z, h => ⟨[], z, rfl, trivial, h⟩
  | a :: x, y, z, h => by
    obtain ⟨b, m, rfl, hb, hm⟩ := Chg.cons h
    obtain ⟨x', y', rfl, h1, h2⟩ := Chg.app x hm
    exact ⟨b :: x', y', rfl, ⟨hb, h1⟩, h2⟩
theorem Chg.same : ∀ {x z : List UInt8}, Chg x z → (∀ c ∈ x, c ≠ 40 ∧ c ≠ 41) → z = x
  | [], z, h, _ => h.nil
  | a :: x, z, h, hc => by
    obtain ⟨b, m, rfl, hb, hm⟩ := Chg.cons h
    have h1 := hc a List.mem_cons_self
    rw [hm.same fun c hc' => hc c (List.mem_cons_of_mem _ hc')]
    rcases hb with rfl | ⟨_, h2 | h2⟩
    · rfl
    · exact absurd h2 h1.1
    · exact absurd h2 h1.2
/-- What a text adds to what stands behind it. -/
def Pg (x : List UInt8) (w : Nat) (v : List Ex) : Prop := ∀ rest, nok rest → ∀ ts u, (tok (x ++ rest)).k ≠ 4 → Run (tok (x ++ rest)) ts u → u.k = 0 →
  (tok rest).k ≠ 4 ∧ ∃ ts', Run (tok rest) ts' u ∧ wt ts = w + wt ts' ∧ lvs ts = v ++ lvs ts'
theorem run_tk {k : UInt8} {s rest : List UInt8} {e : Ex} (h0 : k ≠ 0) {ts : List Tk} {u : Tk} (h : Run ⟨k, s, rest, e⟩ ts u) (hu : u.k = 0) : (tok rest).k ≠ 4 ∧ ∃ ts', ts = ⟨k, s, rest, e⟩ :: ts' ∧ Run (tok rest) ts' u := by
  cases ts with
  | nil => rw [← show (⟨k, s, rest, e⟩ : Tk) = u from h] at hu; exact absurd hu h0
  | cons a l =>
    obtain ⟨rfl, v, hv, hr⟩ := h
    unfold take at hv
    split at hv
    · cases hv
    · rename_i h3
      cases hv
      exact ⟨h3, l, rfl, hr⟩
theorem Pg.one {x : List UInt8} {k : UInt8} {e : Ex} (h0 : k ≠ 0) (h : ∀ rest, nok rest → tok (x ++ rest) = ⟨k, x ++ rest, rest, e⟩) : Pg x (wtT ⟨k, [], [], e⟩) (lvT ⟨k, [], [], e⟩) := by
  intro rest hr ts u h3 hrun hu
  rw [h rest hr] at hrun
  obtain ⟨a, ts', rfl, hr'⟩ := run_tk h0 hrun hu
  exact ⟨a, ts', hr', rfl, rfl⟩
theorem Pg.nil : Pg [] 0 [] := fun rest hr ts u h3 hrun hu => ⟨h3, ts, hrun, by omega, rfl⟩
theorem Pg.blank {x : List UInt8} {w : Nat} {v : List Ex} (h : Pg x w v) : Pg (32 :: x) w v := by
  intro rest hr ts u h3 hrun hu
  rw [List.cons_append, tok_blank] at h3 hrun
  exact h rest hr ts u h3 hrun hu
theorem Pg.sign {x : List UInt8} {w : Nat} {v : List Ex} (h : Pg x w v) (c : UInt8) (hc : isSg c = true) : Pg (c :: x) ((if c = 40 then 1 else 0) + w) v := by
  intro rest hr ts u h3 hrun hu
  rw [List.cons_append, tok_sign c _ hc] at hrun
  have h0 : c ≠ 0 := by rintro rfl; revert hc; decide
  have h1 : c ≠ 1 := by rintro rfl; revert hc; decide
  obtain ⟨a, ts', rfl, hr'⟩ := run_tk h0 hrun hu
  obtain ⟨b, ts2, hr2, e1, e2⟩ := h rest hr ts' u a hr' hu
  refine ⟨b, ts2, hr2, ?_, ?_⟩
  · rw [wt, e1]
    have : wtT ⟨c, c :: (x ++ rest), x ++ rest, nd 0 []⟩ = if c = 40 then 1 else 0 := by
      show (if c = 40 then 1 else if c = 1 ∧ _ then 1 else 0) = _
      rw [if_neg (fun h : c = 1 ∧ _ => h1 h.1)]
    rw [this]; omega
  · rw [lvs, e2]
    have : lvT ⟨c, c :: (x ++ rest), x ++ rest, nd 0 []⟩ = [] := by
      show (if c = 1 ∧ _ then _ else _) = _
      rw [if_neg (fun h : c = 1 ∧ _ => h1 h.1)]
    rw [this]; rfl
theorem Pg.app {x y : List UInt8} {w m : Nat} {v q : List Ex} (h1 : Pg x w v) (h2 : Pg y m q) (hy : nok y) : Pg (x ++ y) (w + m) (v ++ q) := by
  intro rest hr ts u h3 hrun hu
  rw [List.append_assoc] at h3 hrun
  have hn : nok (y ++ rest) := by
    cases y with
    | nil => exact hr
    | cons c s => intro c' s' h; cases h; exact hy c s rfl
  obtain ⟨a, ts1, r1, e1, e2⟩ := h1 (y ++ rest) hn ts u h3 hrun hu
  obtain ⟨b, ts2, r2, e3, e4⟩ := h2 rest hr ts1 u a r1 hu
  exact ⟨b, ts2, r2, by rw [e1, e3]; omega, by rw [e2, e4, List.append_assoc]⟩
/-- However a text is changed: it has no more brackets, as many leaves, and what it had only where no bracket was left out. -/
def Q (x : List UInt8) (n : Nat) (v : List Ex) : Prop := ∀ x', Chg x x' → ∃ w' v', Pg x' w' v' ∧ w' ≤ n ∧ v'.length = v.length ∧ (w' = n → v' = v → x.count 40 ≤ x'.count 40)
theorem Q.nil : Q [] 0 [] := fun x' h => ⟨0, [], by rw [h.nil]; exact Pg.nil, Nat.le_refl _, rfl, fun _ _ => Nat.zero_le _⟩
theorem Q.still {x : List UInt8} {n : Nat} {v : List Ex} (h : Pg x n v) (hc : ∀ c ∈ x, c ≠ 40 ∧ c ≠ 41) : Q x n v := fun x' hx => by
  rw [hx.same hc]
  exact ⟨n, v, h, Nat.le_refl _, rfl, fun _ _ => Nat.le_refl _⟩
theorem Q.blank {x : List UInt8} {n : Nat} {v : List Ex} (h : Q x n v) : Q (32 :: x) n v := by
  intro x' hx
  obtain ⟨b, m, rfl, hb, hm⟩ := hx.cons
  obtain ⟨w', v', h1, h2, h3, h4⟩ := h m hm
  have : b = 32 := by rcases hb with h | ⟨h, _⟩ <;> exact h
  subst this
  refine ⟨w', v', h1.blank, h2, h3, fun e1 e2 => ?_⟩
  have := h4 e1 e2
  rw [List.count_cons, List.count_cons]; omega
theorem Q.sign {x : List UInt8} {n : Nat} {v : List Ex} (h : Q x n v) (c : UInt8) (hc : isSg c = true) (h40 : c ≠ 40) (h41 : c ≠ 41) : Q (c :: x) n v := by
  intro x' hx
  obtain ⟨b, m, rfl, hb, hm⟩ := hx.cons
  obtain ⟨w', v', h1, h2, h3, h4⟩ := h m hm
  have : b = c := by
    rcases hb with h | ⟨_, h | h⟩
    · exact h
    · exact absurd h h40
    · exact absurd h h41
  subst this
  have h5 := h1.sign b hc
  rw [if_neg h40, Nat.zero_add] at h5
  refine ⟨w', v', h5, h2, h3, fun e1 e2 => ?_⟩
  have := h4 e1 e2
  rw [List.count_cons, List.count_cons]; omega
theorem Q.opn {x : List UInt8} {n : Nat} {v : List Ex} (h : Q x n v) : Q (40 :: x) (1 + n) v := by
  intro x' hx
  obtain ⟨b, m, rfl, hb, hm⟩ := hx.cons
  obtain ⟨w', v', h1, h2, h3, h4⟩ := h m hm
  rcases hb with rfl | ⟨rfl, _⟩
  · have h5 := h1.sign 40 rfl
    rw [if_pos rfl] at h5
    refine ⟨1 + w', v', h5, by omega, h3, fun e1 e2 => ?_⟩
    have := h4 (by omega) e2
    rw [List.count_cons, List.count_cons]; omega
  · exact ⟨w', v', h1.blank, by omega, h3, fun e1 e2 => by omega⟩
theorem Q.cls {x : List UInt8} {n : Nat} {v : List Ex} (h : Q x n v) : Q (41 :: x) n v := by
  intro x' hx
  obtain ⟨b, m, rfl, hb, hm⟩ := hx.cons
  obtain ⟨w', v', h1, h2, h3, h4⟩ := h m hm
  have hcount : ∀ b : UInt8, b ≠ 40 → w' = n → v' = v → (41 :: x).count 40 ≤ (b :: m).count 40 := fun b hb e1 e2 => by
    have := h4 e1 e2
    rw [List.count_cons, List.count_cons, if_neg (by decide)]; omega
  rcases hb with rfl | ⟨rfl, _⟩
  · have h5 := h1.sign 41 rfl
    rw [if_neg (by decide), Nat.zero_add] at h5
    exact ⟨w', v', h5, h2, h3, hcount 41 (by decide)⟩
  · exact ⟨w', v', h1.blank, h2, h3, hcount 32 (by decide)⟩
theorem Q.app {x y : List UInt8} {n m : Nat} {v q : List Ex} (h1 : Q x n v) (h2 : Q y m q) (hy : nok y) : Q (x ++ y) (n + m) (v ++ q) := by
  intro z hz
  obtain ⟨x', y', rfl, hx, hy'⟩ := Chg.app x hz
  obtain ⟨w1, v1, a1, a2, a3, a4⟩ := h1 x' hx
  obtain ⟨w2, v2, b1, b2, b3, b4⟩ := h2 y' hy'
  have hn : nok y' := by
    cases y with
    | nil => rw [hy'.nil]; exact hy
    | cons c s =>
      obtain ⟨b, m, rfl, hb, _⟩ := hy'.cons
      intro c' s' h
      cases h
      rcases hb with rfl | ⟨rfl, _⟩
      · exact hy _ s rfl
      · decide
  refine ⟨w1 + w2, v1 ++ v2, a1.app b1 hn, by omega, by simp [a3, b3], fun e1 e2 => ?_⟩
  obtain ⟨f1, f2⟩ := List.append_inj e2 a3
  have g1 := a4 (by omega) f1
  have g2 := b4 (by omega) f2
  rw [List.count_append, List.count_append]; omega
/-- Of an expression. -/
def QE (x : Ex) : Prop := Q x.pr x.nb x.er.lv
theorem Q.bt {x : Ex} (h : QE x) (least : Int) : Q (x.bt least) (x.nb + nbk least x.k) x.er.lv := by
  unfold Ex.bt brk nbk
  split
  · exact h
  · have h1 := (Q.app h (Q.cls Q.nil) (fun c s e => by cases e; decide)).opn
    rw [Nat.add_zero, List.append_nil, Nat.add_comm] at h1
    exact h1
theorem tl2_Q : ∀ (l : List Ex), (∀ x ∈ l, QE x) → Q (tl2 l) (nbL 2 l) (lvL (l.map Ex.er)) ∧ nok (tl2 l)
  | [], _ => ⟨Q.nil, fun c s h => by cases h⟩
  | x :: l, h => by
    have e : tl2 (x :: l) = 32 :: (x.bt 2 ++ tl2 l) := by have := tl2_cons x l []; simpa using this
    obtain ⟨h1, h2⟩ := tl2_Q l fun y hy => h y (List.mem_cons_of_mem _ hy)
    rw [e, List.map_cons, nbL, lvL]
    exact ⟨((Q.bt (h x List.mem_cons_self) 2).app h1 h2).blank, nok32 _⟩
theorem tl1_Q : ∀ (l : List Ex), (∀ x ∈ l, QE x) → Q (tl1 l) (nbL 1 l) (lvL (l.map Ex.er)) ∧ nok (tl1 l)
  | [], _ => ⟨Q.nil, fun c s h => by cases h⟩
  | x :: l, h => by
    have e : tl1 (x :: l) = 32 :: 47 :: 32 :: (x.bt 1 ++ tl1 l) := by have := tl1_cons x l []; simpa using this
    obtain ⟨h1, h2⟩ := tl1_Q l fun y hy => h y (List.mem_cons_of_mem _ hy)
    rw [e, List.map_cons, nbL, lvL]
    exact ⟨((((Q.bt (h x List.mem_cons_self) 1).app h1 h2).blank).sign 47 rfl (by decide) (by decide)).blank, nok32 _⟩
theorem nb_eq (e : Ex) (h : e.k ≠ 1) : e.nb = nbL (lst e.k) e.kids := by
  cases e with
  | mk k S t a c kids => exact (by rw [Ex.nb, if_neg (show ¬ k = 1 from h)] : (Ex.mk k S t a c kids).nb = nbL (lst k) kids)
theorem er_lv (e : Ex) (h : 5 ≤ e.k) : e.er.lv = lvL (e.kids.map Ex.er) := by
  rw [er_eq, Ex.lv, if_neg (by omega), if_neg (by omega)]
theorem hexc_no (n : Nat) : hexc n ≠ 40 ∧ hexc n ≠ 41 := by
  by_cases h : n < 16
  · have : ∀ n : Fin 16, hexc n ≠ 40 ∧ hexc n ≠ 41 := by decide
    exact this ⟨n, h⟩
  · have : hexc n = 0 := by unfold hexc; rw [List.getD_eq_getElem?_getD, List.getElem?_eq_none (by show 16 ≤ n; omega)]; rfl
    rw [this]; decide
theorem sign_no (low : Nat) (g : List UInt8) (b : UInt8) (h40 : b ≠ 40) (h41 : b ≠ 41) : ∀ c ∈ sign low g b, c ≠ 40 ∧ c ≠ 41 := by
  intro c hc
  unfold sign at hc
  split at hc
  · simp at hc; rcases hc with rfl | rfl <;> decide
  split at hc
  · simp at hc; rcases hc with rfl | rfl <;> decide
  split at hc
  · simp at hc; rcases hc with rfl | rfl
    · decide
    · exact ⟨h40, h41⟩
  split at hc
  · simp only [List.mem_cons, List.not_mem_nil, or_false] at hc
    rcases hc with rfl | rfl | rfl | rfl
    · decide
    · decide
    · exact hexc_no _
    · exact hexc_no _
  · simp at hc; subst hc; exact ⟨h40, h41⟩
theorem flat_chg : ∀ (t z : List UInt8), Chg (t.flatMap (sign 32 [39, 92])) z → ∃ t' : List UInt8, z = t'.flatMap (sign 32 [39, 92]) ∧ t'.length = t.length
  | [], z, h => ⟨[], h.nil, rfl⟩
  | b :: t, z, h => by
    rw [List.flatMap_cons] at h
    obtain ⟨x', y', rfl, h1, h2⟩ := Chg.app _ h
    obtain ⟨t', rfl, hl⟩ := flat_chg t y' h2
    have hb : ∃ b', x' = sign 32 [39, 92] b' := by
      by_cases h40 : b = 40
      · rw [h40, show sign 32 [39, 92] 40 = [40] from by decide] at h1
        obtain ⟨c, m, rfl, hc, hm⟩ := h1.cons
        rw [hm.nil]
        rcases hc with rfl | ⟨rfl, _⟩
        · exact ⟨40, by decide⟩
        · exact ⟨32, by decide⟩
      · by_cases h41 : b = 41
        · rw [h41, show sign 32 [39, 92] 41 = [41] from by decide] at h1
          obtain ⟨c, m, rfl, hc, hm⟩ := h1.cons
          rw [hm.nil]
          rcases hc with rfl | ⟨rfl, _⟩
          · exact ⟨41, by decide⟩
          · exact ⟨32, by decide⟩
        · exact ⟨b, h1.same (sign_no 32 [39, 92] b h40 h41)⟩
    obtain ⟨b', rfl⟩ := hb
    exact ⟨b' :: t', by rw [List.flatMap_cons], by simp [hl]⟩
theorem lit_chg (t z : List UInt8) (h : Chg (lit t) z) : ∃ t' : List UInt8, z = lit t' ∧ t'.length = t.length := by
  unfold lit at h
  obtain ⟨b, m, rfl, hb, hm⟩ := h.cons
  obtain ⟨x', y', rfl, h1, h2⟩ := Chg.app _ hm
  obtain ⟨t', rfl, hl⟩ := flat_chg t x' h1
  have e1 : b = 39 := by
    rcases hb with h | ⟨_, h | h⟩
    · exact h
    · cases h
    · cases h
  have e2 : y' = [39] := h2.same (by decide)
  exact ⟨t', by rw [e1, e2]; rfl, hl⟩
theorem lfT_inj {k : Int} {a b : List UInt8} (h : lfT k a = lfT k b) : a = b := by
  unfold lfT at h
  injection h with _ _ h3
  injection h3 with h4
  have := congrArg Array.toList h4
  simpa using this
theorem Q.lit (t : List UInt8) (ht : t ≠ []) : Q (lit t) 0 [lfT 3 t] := by
  intro z hz
  obtain ⟨t', rfl, hl⟩ := lit_chg t z hz
  have hne : t' ≠ [] := by
    intro e; rw [e] at hl
    exact ht (List.eq_nil_of_length_eq_zero hl.symm)
  refine ⟨0, [lfT 3 t'], Pg.one (k := 1) (e := lfT 3 t') (by decide) (fun rest _ => tok_lit t' rest hne), Nat.le_refl _, rfl, fun _ e => ?_⟩
  injection e with e1 _
  rw [lfT_inj e1]; exact Nat.le_refl _
theorem all_Q (hcls : ∀ S : BitVec 256, Q (cls S) 0 [lfS S]) : ∀ (N : Nat) (a : Ex), a.size ≤ N → a.okA = true → QE a := by
  intro N
  induction N with
  | zero => intro a h; rw [size_eq] at h; omega
  | succ N ih =>
    intro a haN ha
    have hf := okA_form ha
    have hlf := form_leaf a hf
    have hkid : ∀ x ∈ a.kids, QE x := fun x hx => ih x (by have := size_kid hx; omega) (okA_kid ha hx)
    unfold QE
    rcases form_kinds a hf with (⟨h1, _⟩ | ⟨h1, h0⟩ | ⟨h1, h0, h2⟩ | ⟨h1, h0, h2⟩) | ⟨h1, h2, _⟩ | ⟨h1, h2, h3⟩
    · have e1 : a.nb = 1 := by cases a with | mk k S t a c kids => rw [Ex.nb, if_pos (show k = 1 from h1)]
      have e2 : a.er.lv = [] := by rw [er_eq, Ex.lv, if_pos h1]
      rw [pr_k1 a h1, e1, e2]
      exact (Q.cls Q.nil).opn
    · have hk : a.kids = [] := List.eq_nil_of_length_eq_zero h0
      have e1 : a.nb = 0 := by rw [nb_eq a (by omega), hk, nbL]
      have he : a.er = lfS a.S := by rw [leaf_er a ha (by omega), hlf.2 (.inr h1), h1]; rfl
      have e2 : a.er.lv = [lfS a.S] := by rw [he]; rfl
      rw [pr_k2 a h1, e1, e2]
      cases hfl : isFull a.S with
      | true =>
        rw [if_pos rfl, (isFull_iff a.S).1 hfl]
        exact Q.still (Pg.one (x := [46]) (k := 1) (e := lfS (BitVec.allOnes 256)) (by decide) (fun rest _ => tok_dot rest)) (by decide)
      | false =>
        rw [if_neg (by decide)]
        exact hcls a.S
    · have hk : a.kids = [] := List.eq_nil_of_length_eq_zero h0
      have e1 : a.nb = 0 := by rw [nb_eq a (by omega), hk, nbL]
      have he : a.er = lfT 3 a.t.data.toList := by
        rw [leaf_er a ha (by omega), hlf.1 (by omega), h1]
        unfold lfT
        rw [show (⟨a.t.data.toList.toArray⟩ : ByteArray) = a.t from by cases a.t; rfl]
      have e2 : a.er.lv = [lfT 3 a.t.data.toList] := by rw [he]; rfl
      have hne : a.t.data.toList ≠ [] := by
        unfold formOk at hf
        rw [Bool.and_eq_true, Bool.and_eq_true] at hf
        have h3 := hf.1.1
        unfold textOk at h3
        rw [if_pos h1, Bool.and_eq_true] at h3
        intro e
        have : a.t.size = 0 := by rw [← llen, e]; rfl
        rw [this] at h3
        simp at h3
      rw [pr_k3 a h1, e1, e2]
      exact Q.lit _ hne
    · have hk : a.kids = [] := List.eq_nil_of_length_eq_zero h0
      have e1 : a.nb = 0 := by rw [nb_eq a (by omega), hk, nbL]
      have he : a.er = lfT 4 a.t.data.toList := by
        rw [leaf_er a ha (by omega), hlf.1 (by omega), h1]
        unfold lfT
        rw [show (⟨a.t.data.toList.toArray⟩ : ByteArray) = a.t from by cases a.t; rfl]
      have e2 : a.er.lv = [lfT 4 a.t.data.toList] := by rw [he]; rfl
      rw [pr_k4 a h1, e1, e2]
      obtain ⟨hall, c, t, hc, hcl⟩ := name_ok a.t (form_name a hf h1)
      rw [hc]
      refine Q.still (Pg.one (x := c :: t) (k := 1) (e := lfT 4 (c :: t)) (by decide) (fun rest hr => tok_name c t rest hcl (by rw [← hc]; exact hall) hr)) (fun d hd => ?_)
      have := hall d (by rw [hc]; exact hd)
      constructor
      · rintro rfl; revert this; decide
      · rintro rfl; revert this; decide
    · rw [nb_eq a (by omega), er_lv a (by omega)]
      cases hk : a.kids with
      | nil => rw [hk] at h2; simp at h2
      | cons x l =>
        rw [hk] at hkid
        have hx := hkid x List.mem_cons_self
        have hl : ∀ y ∈ l, QE y := fun y hy => hkid y (List.mem_cons_of_mem _ hy)
        rcases h1 with h5 | h6
        · have e : a.pr = x.bt 2 ++ tl2 l := by
            rw [pr_eq, if_neg (by omega), if_neg (by omega), if_neg (by omega), if_neg (by omega), if_neg (by omega), if_pos h5, prKs_map, hk, List.map_cons, Lib.join_cons]; rfl
          rw [e, h5, show lst 5 = 2 from by decide, List.map_cons, nbL, lvL]
          obtain ⟨g1, g2⟩ := tl2_Q l hl
          exact (Q.bt hx 2).app g1 g2
        · have e : a.pr = x.bt 1 ++ tl1 l := by
            rw [pr_eq, if_neg (by omega), if_neg (by omega), if_neg (by omega), if_neg (by omega), if_pos h6, prKs_map, hk, List.map_cons, Lib.join_cons]; rfl
          rw [e, h6, show lst 6 = 1 from by decide, List.map_cons, nbL, lvL]
          obtain ⟨g1, g2⟩ := tl1_Q l hl
          exact (Q.bt hx 1).app g1 g2
    · obtain ⟨x, hx, hxo, hxs⟩ := star_kid ha h1
      have hq := hkid x (by rw [hx]; exact List.mem_cons_self)
      have ht := tight_cases a.k
      rw [nb_eq a (by omega), er_lv a (by omega), hx, List.map_cons, List.map_nil, nbL, nbL, lvL, lvL, Nat.add_zero, List.append_nil]
      by_cases h10 : a.k = 10
      · have e : a.pr = 38 :: x.bt 2 := by rw [← bt_pr 2 a (by omega)]; exact pre_bt 38 10 (.inl ⟨rfl, rfl⟩) a x h10 hx
        rw [e, h10, show lst 10 = 2 from by decide]
        exact (Q.bt hq 2).sign 38 rfl (by decide) (by decide)
      · by_cases h11 : a.k = 11
        · have e : a.pr = 33 :: x.bt 2 := by rw [← bt_pr 2 a (by omega)]; exact pre_bt 33 11 (.inr ⟨rfl, rfl⟩) a x h11 hx
          rw [e, h11, show lst 11 = 2 from by decide]
          exact (Q.bt hq 2).sign 33 rfl (by decide) (by decide)
        · have h79 : 7 ≤ a.k ∧ a.k ≤ 9 := by omega
          have e : a.pr = x.bt 3 ++ [sgn a.k] := by rw [← bt_pr 3 a (by omega)]; exact star_bt a x h79 hx
          have e3 : lst a.k = 3 := by unfold lst; rw [if_neg (by omega), if_neg (by omega)]
          obtain ⟨hs1, hs2⟩ := sgn_kind a.k h79
          have hs40 : sgn a.k ≠ 40 ∧ sgn a.k ≠ 41 := by
            have : a.k = 7 ∨ a.k = 8 ∨ a.k = 9 := by omega
            rcases this with h | h | h <;> rw [h] <;> decide
          rw [e, e3]
          have := (Q.bt hq 3).app (Q.nil.sign (sgn a.k) hs2 hs40.1 hs40.2) (fun c s h => by cases h; exact post_not_ok _ (sgn_post _))
          rw [Nat.add_zero, List.append_nil] at this
          exact this
open Ex.er (erL)
theorem nb_er : ∀ (e : Ex), e.er.nb = e.nb
  | .mk k S t a c kids => by rw [Ex.er, Ex.nb, Ex.nb, nbL_er (lst k) kids]
  where
  nbL_er (least : Int) : ∀ (l : List Ex), nbL least (erL l) = nbL least l
    | [] => rfl
    | x :: r => by rw [erL, nbL, nbL, nb_er x, nbL_er least r, show x.er.k = x.k from by rw [er_eq]; rfl]
theorem run_end : ∀ (ts : List Tk) (u : Tk), Run (tok []) ts u → wt ts = 0 ∧ lvs ts = []
  | [], u, h => ⟨rfl, rfl⟩
  | x :: l, u, h => by
    obtain ⟨rfl, v, hv, hr⟩ := h
    have : take (tok []) = .ok (tok []) := rfl
    rw [this] at hv
    cases hv
    obtain ⟨h1, h2⟩ := run_end l u hr
    rw [wt, lvs, h1, h2]
    exact ⟨rfl, rfl⟩
/-- No bracket may be left out. -/
theorem least (hcls : ∀ S : BitVec 256, Q (cls S) 0 [lfS S]) (a : Ex) (ha : a.okA = true) (z : List UInt8) (hz : Chg a.pr z) (hc : z.count 40 < a.pr.count 40) (f : Ex) (hp : parse z = .ok f) : f ≠ a.er := by
  rintro rfl
  obtain ⟨w', v', h1, h2, h3, h4⟩ := all_Q hcls a.size a (Nat.le_refl _) ha z hz
  obtain ⟨ts, u, b1, b2, b3, b4⟩ := parse_has z _ hp
  have h30 : (tok z).k ≠ 4 := by
    intro e
    unfold parse at hp
    rw [if_pos e] at hp
    cases hp
  have := h1 [] (fun c s h => by cases h) ts u (by rw [List.append_nil]; exact h30) (by rw [List.append_nil]; exact b1) b2
  obtain ⟨_, ts', r1, r2, r3⟩ := this
  obtain ⟨q1, q2⟩ := run_end ts' u r1
  rw [q1] at r2
  rw [q2, List.append_nil] at r3
  rw [nb_er] at b4
  have := h4 (by omega) (by rw [← r3, b3])
  omega
end Go.Proofs.YtbeohmcmphebhaaDoor
