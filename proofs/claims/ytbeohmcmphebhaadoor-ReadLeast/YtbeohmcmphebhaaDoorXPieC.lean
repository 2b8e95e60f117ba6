import Derived.Test.YtbeohmcmphebhaaDoorXPie
namespace Go.Proofs.YtbeohmcmphebhaaDoor
set_option linter.unusedVariables false
/-! A class in which brackets are left out. -/
def Sg (y : List UInt8) (n : Nat) : Prop := n < 256 ∧ (∀ r, signAt cg (y ++ r) = (n, y.length)) ∧ ∃ c s, y = c :: s ∧ c ≠ 45 ∧ c ≠ 93 ∧ c ≠ 94
theorem Sg.of {k : Nat} (hk : k < 256) : Sg (csign k) k := ⟨hk, csign_back k hk, csign_first k⟩
theorem Sg.bl : Sg [32] 32 := ⟨by decide, fun r => rfl, 32, [], rfl, by decide, by decide, by decide⟩
theorem Sg.pos {y : List UInt8} {n : Nat} (h : Sg y n) : 0 < y.length := by obtain ⟨_, _, c, s, rfl, _⟩ := h; simp
theorem csign_chg (k : Nat) (hk : k < 256) (y : List UInt8) (h : Chg (csign k) y) : ∃ n, Sg y n ∧ (n = k ∨ n = 32 ∧ (k = 40 ∨ k = 41)) ∧ ((csign k).count 40 ≤ y.count 40 ∨ k = 40 ∧ n = 32) := by
  by_cases h40 : k = 40
  · subst h40
    rw [show csign 40 = [40] from by decide] at h ⊢
    obtain ⟨c, m, rfl, hc, hm⟩ := h.cons
    rw [hm.nil]
    rcases hc with rfl | ⟨rfl, _⟩
    · exact ⟨40, by rw [show [40] = csign 40 from by decide]; exact Sg.of hk, .inl rfl, .inl (by decide)⟩
    · exact ⟨32, Sg.bl, .inr ⟨rfl, .inl rfl⟩, .inr ⟨rfl, rfl⟩⟩
  · by_cases h41 : k = 41
    · subst h41
      rw [show csign 41 = [41] from by decide] at h ⊢
      obtain ⟨c, m, rfl, hc, hm⟩ := h.cons
      rw [hm.nil]
      rcases hc with rfl | ⟨rfl, _⟩
      · exact ⟨41, by rw [show [41] = csign 41 from by decide]; exact Sg.of hk, .inl rfl, .inl (by decide)⟩
      · exact ⟨32, Sg.bl, .inr ⟨rfl, .inr rfl⟩, .inl (by decide)⟩
    · have e : y = csign k := by
        refine h.same (sign_no 33 cg (UInt8.ofNat k) ?_ ?_)
        · intro e; have := congrArg UInt8.toNat e; simp at this; omega
        · intro e; have := congrArg UInt8.toNat e; simp at this; omega
      rw [e]
      exact ⟨k, Sg.of hk, .inl rfl, .inl (Nat.le_refl _)⟩
theorem ucl_sg1 {y : List UInt8} {n : Nat} (h : Sg y n) (t : List UInt8) (ht : Clear t) (acc : BitVec 256) : ucl (y ++ t) acc = ucl t (acc ||| rng n n) := by
  have hp := h.pos
  obtain ⟨hn, hs, c, s, e, h45, h93, h94⟩ := h
  have hm : memberAt (y ++ t) = (n, n, y.length) := by
    obtain ⟨a, r, rfl, ha⟩ := ht
    unfold memberAt
    rw [hs (a :: r)]
    show (if y.length = 0 then _ else _) = _
    rw [if_neg (by omega)]
    show (if ¬ ((y ++ a :: r).drop y.length).headD 0 = 45 ∨ _ then _ else _) = _
    rw [if_pos (.inl (by rw [List.drop_left]; exact ha))]
  have e2 : y ++ t = c :: (s ++ t) := by rw [e]; rfl
  have hd : (y ++ t).drop y.length = t := List.drop_left
  rw [e2] at hm hd ⊢
  rw [ucl_on c (s ++ t) acc h93 (by rw [hm]; show ¬ (y.length = 0 ∨ n < n); omega), hm]
  show ucl ((c :: (s ++ t)).drop y.length) (acc ||| rng n n) = _
  rw [hd]
theorem ucl_sg2 {y z : List UInt8} {a b : Nat} (h : Sg y a) (h' : Sg z b) (t : List UInt8) (acc : BitVec 256) : ucl (y ++ 45 :: (z ++ t)) acc = if b < a then none else ucl t (acc ||| rng a b) := by
  have hp := h.pos
  have hp' := h'.pos
  obtain ⟨hn, hs, c, s, e, h45, h93, h94⟩ := h
  obtain ⟨hn', hs', c', s', e', _, h93', _⟩ := h'
  have hd : (y ++ 45 :: (z ++ t)).drop (y.length + 1) = z ++ t := by
    rw [← List.drop_drop, List.drop_left]; rfl
  have hm : memberAt (y ++ 45 :: (z ++ t)) = (a, b, y.length + 1 + z.length) := by
    unfold memberAt
    rw [hs (45 :: (z ++ t))]
    show (if y.length = 0 then _ else _) = _
    rw [if_neg (by omega)]
    show (if ¬ ((y ++ 45 :: (z ++ t)).drop y.length).headD 0 = 45 ∨ _ then _ else _) = _
    rw [if_neg (by
      rw [List.drop_left]
      intro h
      rcases h with h | h
      · exact h rfl
      · apply h93'
        rw [e'] at h
        exact h)]
    show (if (signAt cg ((y ++ 45 :: (z ++ t)).drop (y.length + 1))).2 = 0 then _ else ((a : Nat), (signAt cg ((y ++ 45 :: (z ++ t)).drop (y.length + 1))).1, y.length + 1 + (signAt cg ((y ++ 45 :: (z ++ t)).drop (y.length + 1))).2)) = _
    rw [hd, hs' t]
    rw [if_neg (by show ¬ z.length = 0; omega)]
  have e2 : y ++ 45 :: (z ++ t) = c :: (s ++ 45 :: (z ++ t)) := by rw [e]; rfl
  have hd2 : (y ++ 45 :: (z ++ t)).drop (y.length + 1 + z.length) = t := by
    rw [← List.drop_drop, hd]; exact List.drop_left
  rw [e2] at hm hd2 ⊢
  by_cases hb : b < a
  · rw [if_pos hb, ucl_bad c _ acc h93 (by rw [hm]; exact .inr hb)]
  · rw [if_neg hb, ucl_on c _ acc h93 (by rw [hm]; show ¬ (y.length + 1 + z.length = 0 ∨ b < a); omega), hm]
    show ucl ((c :: (s ++ 45 :: (z ++ t))).drop (y.length + 1 + z.length)) (acc ||| rng a b) = _
    rw [hd2]
theorem rng_at (x y i : Nat) (hi : i < 256) : (rng x y).getLsbD i = true ↔ x ≤ i ∧ i ≤ y := by
  rw [rng_bit _ _ i hi, Bool.and_eq_true, decide_eq_true_eq, decide_eq_true_eq]; omega
theorem rng_no (x y i : Nat) (hi : i < 256) (h : ¬ (x ≤ i ∧ i ≤ y)) : (rng x y).getLsbD i = false := by
  rw [← Bool.not_eq_true, rng_at x y i hi]; exact h
/-- What a run that was changed is read as. -/
def Two (a b : Nat) (x y : List UInt8) (D : BitVec 256) : Prop :=
  (y.count 40 < x.count 40 → (a ≤ 40 ∧ 40 ≤ b) ∧ (D.getLsbD 40 = false ∨ a = 40 ∧ D.getLsbD 39 = true)) ∧
  (a ≠ 41 → ¬ (a ≤ 40 ∧ 40 ≤ b) → D.getLsbD 40 = false)
theorem run_chg (a b : Nat) (hab : a ≤ b) (hb : b < 256) (y : List UInt8) (h : Chg (run a b) y) : (∃ c s, y = c :: s ∧ c ≠ 45 ∧ c ≠ 94) ∧
    ((∀ t acc, Clear t → ucl (y ++ t) acc = none) ∨ ∃ D, (∀ t acc, Clear t → ucl (y ++ t) acc = ucl t (acc ||| D)) ∧ Two a b (run a b) y D) := by
  unfold run at h
  obtain ⟨ya, y2, rfl, h1, h2⟩ := Chg.app _ h
  obtain ⟨yd, yb, rfl, h3, h4⟩ := Chg.app _ h2
  obtain ⟨a', sa, ca, na⟩ := csign_chg a (by omega) ya h1
  have hhead : ∃ c s, ya ++ (yd ++ yb) = c :: s ∧ c ≠ 45 ∧ c ≠ 94 := by
    obtain ⟨_, _, c, s, rfl, g1, _, g2⟩ := sa
    exact ⟨c, s ++ (yd ++ yb), rfl, g1, g2⟩
  refine ⟨hhead, ?_⟩
  by_cases c1 : a + 1 < b
  · rw [if_pos c1] at h3
    rw [if_pos (by omega)] at h4
    obtain ⟨b', sb, cb, nb⟩ := csign_chg b hb yb h4
    have e3 : yd = [45] := h3.same (by decide)
    subst e3
    have hu : ∀ t acc, ucl (ya ++ ([45] ++ yb) ++ t) acc = if b' < a' then none else ucl t (acc ||| rng a' b') := fun t acc => by
      rw [List.append_assoc]; exact ucl_sg2 sa sb t acc
    by_cases hlt : b' < a'
    · exact .inl fun t acc _ => by rw [hu, if_pos hlt]
    · refine .inr ⟨rng a' b', fun t acc _ => by rw [hu, if_neg hlt], fun hc => ?_, fun h41 hno => ?_⟩
      · have hc2 : ¬ ((csign a).count 40 ≤ ya.count 40 ∧ (csign b).count 40 ≤ yb.count 40) := by
          intro hh
          unfold run at hc
          rw [if_pos c1, if_pos (show a < b by omega)] at hc
          simp only [List.count_append] at hc
          omega
        refine ⟨by omega, ?_⟩
        by_cases hbb : b = 40 ∧ b' = 32
        · exact .inl (rng_no _ _ 40 (by decide) (by omega))
        · right
          have : a = 40 ∧ a' = 32 := by omega
          exact ⟨this.1, (rng_at _ _ 39 (by decide)).2 (by omega)⟩
      · exact rng_no _ _ 40 (by decide) (by omega)
  · rw [if_neg c1] at h3
    have e3 : yd = [] := h3.nil
    subst e3
    by_cases c2 : a < b
    · rw [if_pos c2] at h4
      obtain ⟨b', sb, cb, nb⟩ := csign_chg b hb yb h4
      refine .inr ⟨rng a' a' ||| rng b' b', fun t acc ht => ?_, fun hc => ?_, fun h41 hno => ?_⟩
      · have hcl : Clear (yb ++ t) := by
          obtain ⟨_, _, c, s, rfl, g1, _⟩ := sb
          exact ⟨c, s ++ t, rfl, g1⟩
        rw [List.nil_append, List.append_assoc, ucl_sg1 sa _ hcl, ucl_sg1 sb _ ht, BitVec.or_assoc]
      · have hc2 : ¬ ((csign a).count 40 ≤ ya.count 40 ∧ (csign b).count 40 ≤ yb.count 40) := by
          intro hh
          unfold run at hc
          rw [if_neg c1, if_pos c2] at hc
          simp only [List.count_append, List.nil_append] at hc
          omega
        refine ⟨by omega, .inl ?_⟩
        rw [BitVec.getLsbD_or, rng_no _ _ 40 (by decide) (by omega), rng_no _ _ 40 (by decide) (by omega)]; rfl
      · rw [BitVec.getLsbD_or, rng_no _ _ 40 (by decide) (by omega), rng_no _ _ 40 (by decide) (by omega)]; rfl
    · rw [if_neg c2] at h4
      have e4 : yb = [] := h4.nil
      subst e4
      refine .inr ⟨rng a' a', fun t acc ht => ?_, fun hc => ?_, fun h41 hno => ?_⟩
      · rw [List.nil_append, List.append_nil, ucl_sg1 sa _ ht]
      · have hc2 : ¬ ((csign a).count 40 ≤ ya.count 40) := by
          intro hh
          unfold run at hc
          rw [if_neg c1, if_neg c2] at hc
          simp only [List.append_nil] at hc
          omega
        exact ⟨by omega, .inl (rng_no _ _ 40 (by decide) (by omega))⟩
      · exact rng_no _ _ 40 (by decide) (by omega)
theorem start_inS {S : BitVec 256} {a : Nat} (h : start S a = true) : inS S a = true := by
  unfold start at h; rw [Bool.and_eq_true] at h; exact h.1
theorem run_in {S : BitVec 256} {a i : Nat} (ha : a < 256) (h : start S a = true) (h1 : a ≤ i) (h2 : i ≤ eor S a) : inS S i = true := by
  rcases Nat.eq_or_lt_of_le h1 with rfl | h3
  · exact start_inS h
  · exact (eor_le S a ha).2.2.1 i h3 h2
theorem run_uniq {S : BitVec 256} {a b i : Nat} (ha : a < 256) (hb : b < 256) (h : start S a = true) (h' : start S b = true) (h1 : a ≤ i ∧ i ≤ eor S a) (h2 : b ≤ i ∧ i ≤ eor S b) : a = b := by
  rcases Nat.lt_trichotomy a b with hlt | rfl | hlt
  · have := start_in S b (by omega) (run_in ha h (show a ≤ b - 1 by omega) (by omega))
    rw [this] at h'; cases h'
  · rfl
  · have := start_in S a (by omega) (run_in hb h' (show b ≤ a - 1 by omega) (by omega))
    rw [this] at h; cases h
theorem runs_chg (S : BitVec 256) : ∀ (l : List Nat), (∀ a ∈ l, a < 256 ∧ start S a = true) → l.Nodup → ∀ y, Chg (l.flatMap fun a => run a (eor S a)) y →
    (∀ more, ∃ c s, y ++ 93 :: more = c :: s ∧ c ≠ 45 ∧ c ≠ 94) ∧
    ((∀ more acc, ucl (y ++ 93 :: more) acc = none) ∨ ∃ D, (∀ more acc, ucl (y ++ 93 :: more) acc = some (acc ||| D, more.length + 1)) ∧
      (inS S 40 = true → (∀ a ∈ l, ¬ (a ≤ 40 ∧ 40 ≤ eor S a)) → D.getLsbD 40 = false) ∧
      (y.count 40 < (l.flatMap fun a => run a (eor S a)).count 40 → (∃ a ∈ l, a ≤ 40 ∧ 40 ≤ eor S a) ∧ (D.getLsbD 40 = false ∨ inS S 39 = false ∧ D.getLsbD 39 = true))) := by
  intro l
  induction l with
  | nil =>
    intro _ _ y hy
    rw [List.flatMap_nil] at hy
    rw [hy.nil]
    refine ⟨fun more => ⟨93, more, rfl, by decide, by decide⟩, .inr ⟨0#256, fun more acc => ?_, fun _ _ => by simp, fun h => by simp at h⟩⟩
    rw [List.nil_append, ucl_end]; simp
  | cons a l ih =>
    intro hl hnd y hy
    rw [List.flatMap_cons] at hy
    obtain ⟨y1, y2, rfl, g1, g2⟩ := Chg.app _ hy
    obtain ⟨ha, hst⟩ := hl a List.mem_cons_self
    have hl' : ∀ x ∈ l, x < 256 ∧ start S x = true := fun x hx => hl x (List.mem_cons_of_mem _ hx)
    obtain ⟨hna, hnd'⟩ := List.nodup_cons.1 hnd
    obtain ⟨k1, k2⟩ := ih hl' hnd' y2 g2
    obtain ⟨eo1, eo2, _, _⟩ := eor_le S a ha
    obtain ⟨⟨c, s, ec, hc45, hc94⟩, r2⟩ := run_chg a (eor S a) eo1 (by omega) y1 g1
    have hcl : ∀ more, Clear (y2 ++ 93 :: more) := fun more => by
      obtain ⟨c, s, e, h45, _⟩ := k1 more
      exact ⟨c, s, e, h45⟩
    refine ⟨fun more => ⟨c, s ++ (y2 ++ 93 :: more), by rw [ec]; simp, hc45, hc94⟩, ?_⟩
    rcases r2 with r2 | ⟨D1, r2, t1, t2⟩
    · exact .inl fun more acc => by rw [List.append_assoc]; exact r2 _ _ (hcl more)
    rcases k2 with k2 | ⟨D2, k2, p1, p2⟩
    · exact .inl fun more acc => by rw [List.append_assoc, r2 _ _ (hcl more)]; exact k2 _ _
    have h41 : inS S 40 = true → a ≠ 41 := fun h e => by
      have := start_in S 41 (by decide) h
      rw [← e, hst] at this; cases this
    refine .inr ⟨D1 ||| D2, fun more acc => ?_, fun h40 hno => ?_, fun hc => ?_⟩
    · rw [List.append_assoc, r2 _ _ (hcl more), k2, BitVec.or_assoc]
    · rw [BitVec.getLsbD_or, t2 (h41 h40) (hno a List.mem_cons_self), p1 h40 fun x hx => hno x (List.mem_cons_of_mem _ hx)]; rfl
    · rw [List.flatMap_cons, List.count_append, List.count_append] at hc
      by_cases c1 : y1.count 40 < (run a (eor S a)).count 40
      · obtain ⟨q1, q2⟩ := t1 c1
        refine ⟨⟨a, List.mem_cons_self, q1⟩, ?_⟩
        have h40 : inS S 40 = true := run_in ha hst q1.1 q1.2
        have hD2 : D2.getLsbD 40 = false := p1 h40 fun x hx hq => hna (by
          obtain ⟨x1, x2⟩ := hl' x hx
          rw [run_uniq ha x1 hst x2 q1 hq]; exact hx)
        rcases q2 with q2 | ⟨q2, q3⟩
        · left; rw [BitVec.getLsbD_or, q2, hD2]; rfl
        · right
          refine ⟨?_, by rw [BitVec.getLsbD_or, q3]; rfl⟩
          subst q2
          cases h39 : inS S 39 with
          | false => rfl
          | true =>
            have := start_in S 40 (by decide) h39
            rw [hst] at this; cases this
      · obtain ⟨⟨x, hx, q1⟩, q2⟩ := p2 (by omega)
        refine ⟨⟨x, List.mem_cons_of_mem _ hx, q1⟩, ?_⟩
        obtain ⟨x1, x2⟩ := hl' x hx
        have h40 : inS S 40 = true := run_in x1 x2 q1.1 q1.2
        have hD1 : D1.getLsbD 40 = false := t2 (h41 h40) fun hq => hna (by rw [run_uniq ha x1 hst x2 hq q1]; exact hx)
        rcases q2 with q2 | ⟨q2, q3⟩
        · left; rw [BitVec.getLsbD_or, q2, hD1]; rfl
        · right; exact ⟨q2, by rw [BitVec.getLsbD_or, q3]; simp⟩
theorem class_Q (S : BitVec 256) : Q (cls S) 0 [lfS S] := by
  intro z hz
  unfold cls at hz
  obtain ⟨b, m, rfl, hb, hm⟩ := hz.cons
  obtain ⟨y, y', rfl, h1, h2⟩ := Chg.app _ hm
  have e1 : b = 91 := by
    rcases hb with h | ⟨_, h | h⟩
    · exact h
    · cases h
    · cases h
  have e2 : y' = [93] := h2.same (by decide)
  subst e1 e2
  unfold clsTo at h1
  have hmem : ∀ a ∈ (List.range 256).filter (start S), a < 256 ∧ start S a = true := fun a ha => by
    rw [List.mem_filter, List.mem_range] at ha; exact ha
  obtain ⟨k1, k2⟩ := runs_chg S _ hmem (List.nodup_range.sublist List.filter_sublist) y h1
  have hw : ∀ rest, unclass (91 :: (y ++ [93]) ++ rest) = (ucl (y ++ 93 :: rest) 0#256).map fun x => (x.1, (91 :: (y ++ [93]) ++ rest).length - x.2 + 1) := fun rest => by
    have e : 91 :: (y ++ [93]) ++ rest = 91 :: (y ++ 93 :: rest) := by simp
    obtain ⟨c, s, ec, _, h94⟩ := k1 rest
    have h1 : (y ++ 93 :: rest).headD 0 ≠ 94 := by rw [ec]; exact h94
    unfold unclass within others
    rw [e]
    simp only [List.headD_cons, List.drop_succ_cons, List.drop_zero, if_true, if_neg h1, decide_eq_false h1, Bool.false_eq_true, if_false]
  rcases k2 with k2 | ⟨D, k2, p1, p2⟩
  · refine ⟨0, [nd 1 []], fun rest hr ts u h3 _ _ => absurd ?_ h3, Nat.le_refl _, rfl, fun _ e => ?_⟩
    · have hl : leafAt (91 :: (y ++ [93]) ++ rest) = none := by
        unfold leafAt
        rw [hw rest, k2]
        rfl
      unfold tok
      rw [List.cons_append] at hl ⊢
      rw [skip_cons 91 _ (by decide) (by decide)]
      unfold tokS
      rw [arr_k4]
      unfold tokB
      rw [if_neg (by simp), if_neg (by rintro ⟨h2, _⟩; exact absurd h2 (show ¬ (91 : UInt8) = 60 from by decide)), List.headD_cons, if_neg (by decide), hl]
    · injection e with e1 _
      unfold nd lfS at e1
      injection e1 with e2
      cases e2
  · refine ⟨0, [lfS D], Pg.one (k := 1) (e := lfS D) (by decide) (fun rest _ => ?_), Nat.le_refl _, rfl, fun _ e => ?_⟩
    · have hl : leafAt (91 :: (y ++ [93]) ++ rest) = some (lfS D, (91 :: (y ++ [93])).length) := by
        unfold leafAt
        rw [hw rest, k2]
        show some (lfS (0#256 ||| D), (91 :: (y ++ [93]) ++ rest).length - (rest.length + 1) + 1) = _
        congr 2
        · simp
        · simp; omega
      have hdr : (91 :: (y ++ [93]) ++ rest).drop (91 :: (y ++ [93])).length = rest := List.drop_left
      rw [List.cons_append] at hl hdr ⊢
      rw [tok_leaf 91 _ _ (by decide) (by decide) (by decide) (by decide) hl]
      simp only
      rw [hdr]
    · injection e with e1 _
      unfold lfS at e1
      injection e1 with _ e2
      subst e2
      rcases Nat.lt_or_ge ((91 :: (y ++ [93])).count 40) ((cls D).count 40) with hc | hc
      · exfalso
        have hc' : y.count 40 < (((List.range 256).filter (start D)).flatMap fun a => run a (eor D a)).count 40 := by
          unfold cls clsTo at hc
          simp only [List.count_cons, List.count_append] at hc
          omega
        obtain ⟨⟨a, hma, q1⟩, q2⟩ := p2 hc'
        obtain ⟨x1, x2⟩ := hmem a hma
        have h40 : inS D 40 = true := run_in x1 x2 q1.1 q1.2
        rcases q2 with q2 | ⟨q2, q3⟩
        · unfold inS at h40; rw [q2] at h40; cases h40
        · unfold inS at q2; rw [q3] at q2; cases q2
      · exact hc
/-- No bracket may be left out of what was printed. -/
theorem no_less (a : Ex) (ha : a.okA = true) (z : List UInt8) (hz : Chg a.pr z) (hc : z.count 40 < a.pr.count 40) (f : Ex) (hp : parse z = .ok f) : f ≠ a.er := least class_Q a ha z hz hc f hp
end Go.Proofs.YtbeohmcmphebhaaDoor
