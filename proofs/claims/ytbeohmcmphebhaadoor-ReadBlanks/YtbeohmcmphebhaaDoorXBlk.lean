import Derived.Test.YtbeohmcmphebhaaDoorXSim
import Derived.Test.YtbeohmcmphebhaaDoorXWholeA
namespace Go.Proofs.YtbeohmcmphebhaaDoor
set_option linter.unusedVariables false
/-! A blank and a remark behind a text. -/
def post : List UInt8 := [10, 32, 35, 32, 39]
theorem behind_post (d : List UInt8) : behind10 (d ++ post) = if (d.dropWhile (· != 10)) = [] then [32, 35, 32, 39] else behind10 d ++ post := by
  unfold behind10
  rw [List.dropWhile_append]
  by_cases h : d.dropWhile (· != 10) = []
  · rw [if_pos h, if_pos (by rw [h]; rfl)]; rfl
  · rw [if_neg h, if_neg (by simpa using h)]
    cases hd : d.dropWhile (· != 10) with
    | nil => exact absurd hd h
    | cons a r => rfl
theorem skip_post : ∀ (n : Nat) (l : List UInt8), l.length ≤ n → skip (l ++ post) = if skip l = [] then [] else skip l ++ post := by
  intro n
  induction n with
  | zero =>
    intro l hl
    have e : l = [] := List.eq_nil_of_length_eq_zero (by omega)
    subst e; decide
  | succ n ih =>
    intro l hl
    have hdl := dropWhile_len isBl l
    have hda := List.dropWhile_append (p := isBl) (xs := l) (ys := post)
    cases hd : l.dropWhile isBl with
    | nil =>
      rw [hd] at hda
      have e1 : skip l = [] := by rw [skip_no l (by rw [hd]; decide), hd]
      have e2 : (l ++ post).dropWhile isBl = [35, 32, 39] := by rw [hda]; decide
      rw [e1, if_pos rfl, skip_yes (l ++ post) (by rw [e2]; rfl), e2]
      decide
    | cons c r =>
      rw [hd] at hda
      have e2 : (l ++ post).dropWhile isBl = (c :: r) ++ post := by rw [hda]; rfl
      by_cases h35 : c = 35
      · have e1 : skip l = skip (behind10 (c :: r)) := by rw [skip_yes l (by rw [hd, h35]; rfl), hd]
        have e3 : skip (l ++ post) = skip (behind10 ((c :: r) ++ post)) := by rw [skip_yes (l ++ post) (by rw [e2, h35]; rfl), e2]
        rw [e1, e3, behind_post]
        by_cases h10 : (c :: r).dropWhile (· != 10) = []
        · rw [if_pos h10]
          have hb : behind10 (c :: r) = [] := by unfold behind10; rw [h10]; rfl
          rw [hb]; decide
        · rw [if_neg h10]
          have h1 := behind10_len (c :: r) (by simp)
          rw [hd] at hdl
          exact ih _ (by omega)
      · have e1 : skip l = c :: r := by rw [skip_no l (by rw [hd]; exact h35), hd]
        have e3 : skip (l ++ post) = (c :: r) ++ post := by rw [skip_no (l ++ post) (by rw [e2]; exact h35), e2]
        rw [e1, e3, if_neg (by simp)]
theorem signAt_cons (g : List UInt8) (a : UInt8) (r : List UInt8) : signAt g (a :: r) = if a.toNat = 10 then (0, 0) else if a.toNat ≠ 92 then (a.toNat, 1) else strokeAt g (a :: r) := rfl
theorem strokeAt_cons (g : List UInt8) (a c : UInt8) (r : List UInt8) : strokeAt g (a :: c :: r) = if c.toNat = 110 then (10, 2) else if c.toNat = 116 then (9, 2) else if c.toNat = 120 then hexAt (a :: c :: r) else if gd g c then (c.toNat, 2) else (0, 0) := rfl
theorem hex_post (a c : UInt8) (r : List UInt8) : hexAt (a :: c :: (r ++ post)) = hexAt (a :: c :: r) := by
  have hx : ∀ x y : UInt8, ∀ q : List UInt8, hexAt (a :: c :: x :: y :: q) = if 0 ≤ Lib.indexByte hexs x ∧ 0 ≤ Lib.indexByte hexs y then (16 * (Lib.indexByte hexs x).toNat + (Lib.indexByte hexs y).toNat, 4) else (0, 0) := fun _ _ _ => rfl
  match r with
  | [] =>
    show hexAt (a :: c :: 10 :: 32 :: [35, 32, 39]) = (0, 0)
    rw [hx, if_neg (by rintro ⟨h, _⟩; revert h; decide)]
  | [x] =>
    show hexAt (a :: c :: x :: 10 :: [32, 35, 32, 39]) = (0, 0)
    rw [hx, if_neg (by rintro ⟨_, h⟩; revert h; decide)]
  | x :: y :: r => rfl
theorem sign_post (g l : List UInt8) (hl : l ≠ []) (hg : gd g 10 = false) : signAt g (l ++ post) = signAt g l := by
  cases l with
  | nil => exact absurd rfl hl
  | cons a r =>
    rw [List.cons_append, signAt_cons, signAt_cons]
    have hk : strokeAt g (a :: (r ++ post)) = strokeAt g (a :: r) := by
      cases r with
      | nil =>
        show strokeAt g (a :: 10 :: [32, 35, 32, 39]) = (0, 0)
        rw [strokeAt_cons, if_neg (by decide), if_neg (by decide), if_neg (by decide), if_neg (by rw [hg]; decide)]
      | cons c r =>
        rw [List.cons_append, strokeAt_cons, strokeAt_cons, hex_post]
    rw [hk]
theorem sign_at_post (g : List UInt8) : signAt g post = (0, 0) := rfl
theorem unl_post (q : UInt8) (hq : q ≠ 10) (g : List UInt8) (hg : gd g 10 = false) : ∀ (n : Nat) (r text : List UInt8) (k : Nat), r.length ≤ n → unl q g (r ++ post) text k = unl q g r text k := by
  intro n
  induction n with
  | zero =>
    intro r text k hr
    have e : r = [] := List.eq_nil_of_length_eq_zero (by omega)
    subst e
    rw [List.nil_append, unl_nil, show post = 10 :: [32, 35, 32, 39] from rfl, unl_bad q g text 10 _ k (fun h => hq h.symm) rfl]
  | succ n ih =>
    intro r text k hr
    cases r with
    | nil => rw [List.nil_append, unl_nil, show post = 10 :: [32, 35, 32, 39] from rfl, unl_bad q g text 10 _ k (fun h => hq h.symm) rfl]
    | cons a r =>
      have hs := sign_post g (a :: r) (by simp) hg
      have hl := (signAt_lt g (a :: r)).2
      by_cases ha : a = q
      · rw [ha, List.cons_append, unl_end, unl_end]
      · by_cases h0 : (signAt g (a :: r)).2 = 0
        · rw [unl_bad q g text a r k ha h0, List.cons_append, unl_bad q g text a (r ++ post) k ha (by rw [← List.cons_append, hs]; exact h0)]
        · rw [unl_on q g text a r k ha h0, List.cons_append, unl_on q g text a (r ++ post) k ha (by rw [← List.cons_append, hs]; exact h0), ← List.cons_append, hs, List.drop_append_of_le_length hl]
          exact ih _ _ _ (by rw [List.length_drop]; omega)
theorem unlit_post (l : List UInt8) (hl : l ≠ []) : unlit [39, 34, 92] (l ++ post) = unlit [39, 34, 92] l := by
  cases l with
  | nil => exact absurd rfl hl
  | cons q r =>
    rw [List.cons_append]
    unfold unlit
    simp only
    split
    · rename_i h
      exact unl_post q (by rintro rfl; revert h; decide) _ (by decide) _ r [] 1 (Nat.le_refl _)
    · rfl
theorem member_post (l : List UInt8) (hl : l ≠ []) : memberAt (l ++ post) = memberAt l := by
  have hs := sign_post cg l hl (by decide)
  have hle := (signAt_lt cg l).2
  unfold memberAt
  rw [hs]
  by_cases h0 : (signAt cg l).2 = 0
  · rw [if_pos h0, if_pos h0]
  · rw [if_neg h0, if_neg h0]
    have hd : (l ++ post).drop (signAt cg l).2 = l.drop (signAt cg l).2 ++ post := List.drop_append_of_le_length hle
    have hd1 : (l ++ post).drop ((signAt cg l).2 + 1) = (l.drop (signAt cg l).2 ++ post).drop 1 := by rw [← hd, List.drop_drop]
    have hd2 : l.drop ((signAt cg l).2 + 1) = (l.drop (signAt cg l).2).drop 1 := by rw [List.drop_drop]
    rw [hd, hd1, hd2]
    generalize l.drop (signAt cg l).2 = d at *
    have hS : d ≠ [] → signAt cg ((d ++ post).drop 1) = signAt cg (d.drop 1) := by
      intro hne
      match d with
      | [] => exact absurd rfl hne
      | [c] => rfl
      | c :: e :: d => exact sign_post cg (e :: d) (by simp) (by decide)
    have hC : (¬ (d ++ post).headD 0 = 45 ∨ (d ++ post).tail.headD 0 = 93) ↔ (¬ d.headD 0 = 45 ∨ d.tail.headD 0 = 93) := by
      match d with
      | [] => exact ⟨fun _ => .inl (by decide), fun _ => .inl (by decide)⟩
      | [c] =>
        show (¬ c = 45 ∨ (10 : UInt8) = 93) ↔ (¬ c = 45 ∨ (0 : UInt8) = 93)
        exact ⟨fun h => .inl (by rcases h with h | h; exact h; exact absurd h (by decide)), fun h => .inl (by rcases h with h | h; exact h; exact absurd h (by decide))⟩
      | c :: e :: d => exact Iff.rfl
    by_cases hc : ¬ d.headD 0 = 45 ∨ d.tail.headD 0 = 93
    · rw [if_pos (hC.2 hc), if_pos hc]
    · have hne : d ≠ [] := by rintro rfl; exact hc (.inl (by decide))
      rw [if_neg (fun h => hc (hC.1 h)), if_neg hc, hS hne]
theorem ucl_post : ∀ (n : Nat) (r : List UInt8) (acc : BitVec 256), r.length ≤ n → ucl (r ++ post) acc = (ucl r acc).map fun x => (x.1, x.2 + 5) := by
  intro n
  induction n with
  | zero =>
    intro r acc hr
    have e : r = [] := List.eq_nil_of_length_eq_zero (by omega)
    subst e
    rw [List.nil_append, ucl_nil, show post = 10 :: [32, 35, 32, 39] from rfl, ucl_bad 10 _ acc (by decide) (.inl rfl)]; rfl
  | succ n ih =>
    intro r acc hr
    cases r with
    | nil => rw [List.nil_append, ucl_nil, show post = 10 :: [32, 35, 32, 39] from rfl, ucl_bad 10 _ acc (by decide) (.inl rfl)]; rfl
    | cons a r =>
      have hm := member_post (a :: r) (by simp)
      have hl := (memberAt_lt (a :: r)).2.2
      by_cases ha : a = 93
      · rw [ha, List.cons_append, ucl_end, ucl_end]; simp [post]
      · by_cases h0 : (memberAt (a :: r)).2.2 = 0 ∨ (memberAt (a :: r)).2.1 < (memberAt (a :: r)).1
        · rw [ucl_bad a r acc ha h0, List.cons_append, ucl_bad a (r ++ post) acc ha (by rw [← List.cons_append, hm]; exact h0)]; rfl
        · rw [ucl_on a r acc ha h0, List.cons_append, ucl_on a (r ++ post) acc ha (by rw [← List.cons_append, hm]; exact h0), ← List.cons_append, hm, List.drop_append_of_le_length hl]
          exact ih _ _ (by rw [List.length_drop]; have : (memberAt (a :: r)).2.2 ≠ 0 := fun h => h0 (.inl h); simp at hr ⊢; omega)
theorem unclass_post (l : List UInt8) (hl : l ≠ []) : unclass (l ++ post) = unclass l := by
  cases l with
  | nil => exact absurd rfl hl
  | cons c r =>
    have hw : within (c :: r ++ post) = within (c :: r) ++ post ∧ others (c :: r ++ post) = others (c :: r) := by
      unfold within others
      cases r with
      | nil => exact ⟨rfl, rfl⟩
      | cons d r =>
        constructor
        · show (if d = 94 then _ else _) = (if d = 94 then _ else _) ++ post
          split <;> rfl
        · rfl
    unfold unclass
    rw [hw.1, hw.2, show (c :: r ++ post).headD 0 = (c :: r).headD 0 from rfl, ucl_post _ _ _ (Nat.le_refl _)]
    split
    · cases hu : ucl (within (c :: r)) 0#256 with
      | none => rfl
      | some x =>
        show some (_, (c :: r ++ post).length - (x.2 + 5) + 1) = some (_, (c :: r).length - x.2 + 1)
        congr 2
        simp [post]
    · rfl
theorem leaf_post (l : List UInt8) (hl : l ≠ []) : leafAt (l ++ post) = leafAt l := by
  have hh : (l ++ post).headD 0 = l.headD 0 := by
    cases l with
    | nil => exact absurd rfl hl
    | cons c r => rfl
  have htw : (l ++ post).takeWhile okc = l.takeWhile okc := by
    rw [List.takeWhile_append]
    split
    · rename_i h
      rw [show post.takeWhile okc = [] from by decide, List.append_nil]
      exact ((List.takeWhile_prefix okc).eq_of_length h).symm
    · rfl
  unfold leafAt
  rw [hh, unlit_post l hl, unclass_post l hl, htw]
/-- A token with what stands behind. -/
def extB (t : Tk) : Tk := if t.k = 0 then t else if t.k = 3 then ⟨3, t.s ++ post, [], t.e⟩ else ⟨t.k, t.s ++ post, t.r ++ post, t.e⟩
theorem tokB_post (s : List UInt8) (hs : s ≠ []) : tokB (s ++ post) = extB (tokB s) := by
  have hlen := List.length_pos_iff.2 hs
  have hh : (s ++ post).headD 0 = s.headD 0 := by
    cases s with
    | nil => exact absurd rfl hs
    | cons c r => rfl
  have hh1 : ((s ++ post).drop 1).headD 0 = 45 ↔ (s.drop 1).headD 0 = 45 := by
    match s with
    | [] => exact absurd rfl hs
    | [c] => exact ⟨fun h => absurd h (show ¬ (10 : UInt8) = 45 from by decide), fun h => absurd h (show ¬ (0 : UInt8) = 45 from by decide)⟩
    | c :: d :: r => exact Iff.rfl
  unfold tokB
  rw [if_neg (by simp [hs]), if_neg hs, hh]
  by_cases h2 : s.headD 0 = 60 ∧ (s.drop 1).headD 0 = 45
  · have hl2 : 2 ≤ s.length := by
      rcases Nat.lt_or_ge s.length 2 with h | h
      · have : s.drop 1 = [] := List.drop_eq_nil_of_le (by omega)
        rw [this] at h2
        exact absurd h2.2 (by decide)
      · exact h
    rw [if_pos ⟨h2.1, hh1.2 h2.2⟩, if_pos h2]
    unfold extB
    rw [if_neg (show ¬ (2 : UInt8) = 0 from by decide), if_neg (show ¬ (2 : UInt8) = 3 from by decide)]
    simp only
    rw [List.drop_append_of_le_length hl2]
  · rw [if_neg (fun h => h2 ⟨h.1, hh1.1 h.2⟩), if_neg h2]
    by_cases h3 : isSg (s.headD 0) = true
    · rw [if_pos h3, if_pos h3]
      unfold extB
      have e0 : ¬ s.headD 0 = 0 := by intro e; rw [e] at h3; revert h3; decide
      have e3 : ¬ s.headD 0 = 3 := by intro e; rw [e] at h3; revert h3; decide
      simp only
      rw [if_neg e0, if_neg e3, List.drop_append_of_le_length hlen]
    · rw [if_neg h3, if_neg h3, leaf_post s hs]
      cases hl : leafAt s with
      | none => rfl
      | some x =>
        unfold extB
        simp only
        rw [if_neg (show ¬ (1 : UInt8) = 0 from by decide), if_neg (show ¬ (1 : UInt8) = 3 from by decide), List.drop_append_of_le_length (leafAt_le s x hl)]
/-- A token with what stands behind. -/
def ext (t : Tk) : Tk := if t.k = 0 then t else if t.k = 4 then ⟨4, t.s ++ post, [], t.e⟩ else ⟨t.k, t.s ++ post, t.r ++ post, t.e⟩
theorem tokS_post (s : List UInt8) (hs : s ≠ []) : tokS (s ++ post) = ext (tokS s) := by
  unfold tokS
  rw [tokB_post s hs]
  have h4 := tokB_ne4 s
  generalize tokB s = t at *
  by_cases h0 : t.k = 0
  · have h3 : t.k ≠ 3 := by rw [h0]; decide
    rw [arr_no t h3]
    unfold extB ext
    rw [if_pos h0, if_pos h0]
    exact arr_no t h3
  · by_cases h3 : t.k = 3
    · have e1 : arr t = ⟨4, t.s, t.r, t.e⟩ := by unfold arr; rw [if_pos h3]
      rw [e1]
      unfold extB ext
      rw [if_neg h0, if_pos h3]
      rfl
    · rw [arr_no t h3]
      unfold extB ext
      rw [if_neg h0, if_neg h3, if_neg h0, if_neg h4]
      exact arr_no _ h3
theorem tok_post (l : List UInt8) : tok (l ++ post) = ext (tok l) := by
  unfold tok
  rw [skip_post _ l (Nat.le_refl _)]
  by_cases h : skip l = []
  · rw [if_pos h, h]; rfl
  · rw [if_neg h]; exact tokS_post _ h
def ahead : List UInt8 := [32, 9, 35, 32, 40, 32, 10]
theorem tok_ahead (l : List UInt8) : tok (ahead ++ l) = tok l := by
  unfold tok
  have : skip (ahead ++ l) = skip l := by
    rw [skip_yes (ahead ++ l) rfl]
    rfl
  rw [this]
def hpost (s : List UInt8) : List UInt8 := if s = [] then [] else s ++ post
theorem ext_s {t : Tk} {T : List UInt8} (ht : t.of T) : (ext t).s = hpost t.s := by
  unfold ext hpost
  by_cases h0 : t.k = 0
  · have : t.s = [] := (tokS_end t.s).1 (by rw [← ht.1]; exact h0)
    rw [if_pos h0, if_pos this, this]
  · have : ¬ t.s = [] := fun e => h0 (by rw [ht.1, e]; rfl)
    rw [if_neg h0, if_neg ht.2.2, if_neg this]
theorem sim_post (l : List UInt8) : Sim l (ahead ++ l ++ post) ext hpost where
  k := fun t ht => by
    unfold ext
    by_cases h0 : t.k = 0
    · rw [if_pos h0]
    · rw [if_neg h0, if_neg ht.2.2]
  e := fun t ht => by
    unfold ext
    by_cases h0 : t.k = 0
    · rw [if_pos h0]
    · rw [if_neg h0, if_neg ht.2.2]
  s := fun t ht => ext_s ht
  tk := fun t ht h0 => by
    have hr : (ext t).r = t.r ++ post := by unfold ext; rw [if_neg h0, if_neg ht.2.2]
    unfold take
    rw [hr, tok_post]
    by_cases h3 : (tok t.r).k = 4
    · have hs : ¬ (tok t.r).s = [] := fun e => by
        unfold tok at e h3
        rw [tokS_s] at e
        rw [e] at h3
        revert h3; decide
      have he : ext (tok t.r) = ⟨4, (tok t.r).s ++ post, [], (tok t.r).e⟩ := by unfold ext; rw [if_neg (by rw [h3]; decide), if_pos h3]
      rw [if_pos h3, he, if_pos rfl]
      show Except.error _ = Except.error (hpost (tok t.r).s)
      unfold hpost
      rw [if_neg hs]
    · have he : (ext (tok t.r)).k = (tok t.r).k := by
        unfold ext
        by_cases h0 : (tok t.r).k = 0
        · rw [if_pos h0]
        · rw [if_neg h0, if_neg h3]
      rw [if_neg h3, if_neg (by rw [he]; exact h3)]
      rfl
  of := fun t ht => by
    have hs := ext_s ht
    refine ⟨?_, ?_, ?_⟩
    · by_cases h0 : t.s = []
      · have hk : t.k = 0 := by rw [ht.1, h0]; rfl
        have : ext t = t := by unfold ext; rw [if_pos hk]
        rw [this]; exact ht.1
      · rw [hs]
        unfold hpost
        rw [if_neg h0, tokS_post _ h0, ← ht.1]
    · rw [hs]
      unfold hpost
      split
      · exact List.nil_suffix
      · obtain ⟨q, hq⟩ := ht.2.1
        exact ⟨ahead ++ q, by rw [← hq]; simp⟩
    · unfold ext
      by_cases h0 : t.k = 0
      · rw [if_pos h0]; exact ht.2.2
      · rw [if_neg h0, if_neg ht.2.2]; exact ht.2.2
theorem parse_post (l : List UInt8) : parse (ahead ++ l ++ post) = mapE id hpost (parse l) := by
  have ht : tok (ahead ++ l ++ post) = ext (tok l) := by rw [List.append_assoc, tok_ahead, tok_post]
  by_cases h3 : (tok l).k = 4
  · have hs : ¬ (tok l).s = [] := fun e => by
      unfold tok at e h3
      rw [tokS_s] at e
      rw [e] at h3
      revert h3; decide
    have he : ext (tok l) = ⟨4, (tok l).s ++ post, [], (tok l).e⟩ := by unfold ext; rw [if_neg (by rw [h3]; decide), if_pos h3]
    unfold parse
    rw [ht, he, if_pos rfl, if_pos h3]
    show Except.error _ = Except.error (hpost (tok l).s)
    unfold hpost
    rw [if_neg hs]
  · exact parse_side (sim_post l) h3 ht
end Go.Proofs.YtbeohmcmphebhaaDoor
