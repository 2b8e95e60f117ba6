import Derived.Test.YtbeohmcmphebhaaGreatDoorXApartD
import Derived.Test.YtbeohmcmphebhaaGreatDoorXOver
import Derived.Test.YtbeohmcmphebhaaGreatDoorXRB
namespace Go.Proofs.YtbeohmcmphebhaaGreatDoor
open Go.RowKit
set_option linter.unusedVariables false
theorem RuIn.below2 {n : Nat} {A B : World} {a : Option Addr} {j : Nat} {r : ByteArray × Ex} (h : RuIn n A a j r) (hn : n ≤ A.heap.size) (hb : Below A.heap.size A B) : RuIn n B a j r := by
  obtain ⟨⟨b, o, ha, hlt, hc⟩, h1, h2⟩ := h
  exact ⟨⟨b, o, ha, hlt, fun m hm => (hb.cell (p := ⟨b, o + j * 8 + m, none⟩) (by show b < _; omega)).trans (hc m hm)⟩, h1, h2.below (hb.mono hn)⟩
theorem er2_same {a b : Rl} (h : er2 a = er2 b) : a.1 = b.1 ∧ a.2.same b.2 = true := by
  unfold er2 at h
  have h1 := congrArg Prod.fst h
  have h2 := congrArg Prod.snd h
  exact ⟨h1, (same_er _ _).2 h2⟩
set_option maxRecDepth 20000 in
set_option maxHeartbeats 4000000 in
theorem sameR_any (a b : Rl) (h : er2 a = er2 b) (w : World) (ha : a.2.In w.heap.size w) (hb : b.2.In w.heap.size w) :
    Calls Tryz.prog 16 #[.agg (rcell a).toArray, .agg (rcell b).toArray] w fun r w' => r = .returned (.bool true) ∧ Below w.heap.size w w' := by
  obtain ⟨h1, h2⟩ := er2_same h
  have hA := ((Below.refl w.heap.size w).alloc (Nat.le_refl _) (.cells (rcell a).toArray 49)).alloc (by simp) (.cells (rcell b).toArray 49)
  have hsm := same_any a.2 b.2 _ (ha.grow hA) (hb.grow hA)
  rw [h2] at hsm
  have HB : Hid (∀ {W}, Below ((w.alloc (.cells (rcell a).toArray 49)).alloc (.cells (rcell b).toArray 49)).heap.size ((w.alloc (.cells (rcell a).toArray 49)).alloc (.cells (rcell b).toArray 49)) W → Below w.heap.size w W) := fun hb => hA.trans (hb.mono hA.size)
  have g1 : (a.1.toList == b.1.toList) = true := by rw [h1]; simp
  rw [val_eq, val_eq] at hsm
  rw [rcell_eq, rcell_eq] at hsm HB ⊢
  clear h h1 h2 hA ha hb
  go_enter Tryz.func16, Tryz.ntmps16
  go_wp2_with (go_at_call 17; refine hsm.mono ?_; rintro e w1 ⟨rfl, hb1⟩)
  go_ret
  exact ⟨rfl, HB.out hb1⟩
set_option maxRecDepth 20000 in
set_option maxHeartbeats 8000000 in
theorem equalF_any (g h : Gr) (he : g.rules.map er2 = h.rules.map er2) (w : World) (hg : g.In w.heap.size w) (hh : h.In w.heap.size w) :
    Calls Tryz.prog 15 #[.slice g.a g.rules.length g.c, .slice h.a h.rules.length h.c, .func (.func 16) #[] #[]] w fun r w' => r = .returned (.bool true) ∧ Below w.heap.size w w' := by
  have hlen := hg.len
  have hll : h.rules.length = g.rules.length := by have := congrArg List.length he; simpa using this.symm
  have HG : Hid (g.In w.heap.size w) := hg
  have HH : Hid (h.In w.heap.size w) := hh
  have HE : Hid (g.rules.map er2 = h.rules.map er2) := he
  rw [hll]
  clear hg hh he
  go_enter Tryz.func15, Tryz.ntmps15
  go_wp2_with fail
  go_loopw [17] (fun p wr => ∃ i : Nat, p = .int .i64 i ∧ i ≤ g.rules.length ∧ Hid (Below w.heap.size w wr)) (fun p _ => g.rules.length - (intOf p).toNat)
  case atStart => exact ⟨0, rfl, Nat.zero_le _, Below.refl _ _⟩
  case round =>
    obtain ⟨i, rfl, hi, HB⟩ := hrel
    by_cases hend : i = g.rules.length
    · have g1 : decide (i < g.rules.length) = false := by simp; omega
      clear hend
      go_wp2_with fail
      go_ret
      exact ⟨rfl, HB.out⟩
    · have hil : i < g.rules.length := by omega
      clear hend
      obtain ⟨x, hx⟩ : ∃ x, g.rules[i]? = some x := ⟨_, List.getElem?_eq_getElem hil⟩
      obtain ⟨y, hy⟩ : ∃ y, h.rules[i]? = some y := ⟨_, List.getElem?_eq_getElem (by omega)⟩
      have hxy : er2 x = er2 y := by
        have := congrArg (·[i]?) HE.out
        simp only [List.getElem?_map, hx, hy, Option.map_some] at this
        exact Option.some.inj this
      have hrx := (HG.out.below HB.out).rule i x hx
      have hry := (HH.out.below HB.out).rule i y hy
      obtain ⟨b, o, ha, hb, c0, c1, c2, c3, c4, c5, c6, c7⟩ := rcells hrx
      have hA := (Below.refl wr.heap.size wr).alloc (Nat.le_refl _) (.cells (rcell x).toArray 49)
      have hry2 := hry
      obtain ⟨b', o', ha', hb', d0, d1, d2, d3, d4, d5, d6, d7⟩ := rcells (RuIn.below2 hry (HB.out.size) hA)
      have hA2 := hA.alloc hA.size (.cells (rcell y).toArray 49)
      have hsr := sameR_any x y hxy _ ((hrx.body.mono HB.out.size).grow hA2) ((hry2.body.mono HB.out.size).grow hA2)
      have HN : Hid (∀ {W}, Below ((wr.alloc (.cells (rcell x).toArray 49)).alloc (.cells (rcell y).toArray 49)).heap.size ((wr.alloc (.cells (rcell x).toArray 49)).alloc (.cells (rcell y).toArray 49)) W → Below w.heap.size w W) := fun h => HB.out.trans ((hA2.trans (h.mono hA2.size)).mono HB.out.size)
      rw [rcell_eq, rcell_eq] at hsr HN
      rw [rcell_eq] at d0 d1 d2 d3 d4 d5 d6 d7
      rw [ha, ha']
      clear hx hy hxy hrx hry hry2 hA hA2 hb hb' HB
      go_wp2_with (go_at_call 16; refine hsr.mono ?_; rintro e w5 ⟨rfl, hb5⟩; have H5 : Hid _ := HN.out hb5; clear hb5 hsr)
      exact ⟨⟨i + 1, by go_num, by omega, H5⟩, by simp [intOf]; omega⟩
set_option maxRecDepth 20000 in
theorem sameG_any (g h : Gr) (he : g.rules.map er2 = h.rules.map er2) (w : World) (hg : g.In w.heap.size w) (hh : h.In w.heap.size w) :
    Calls Tryz.prog 8 #[g.val, h.val] w fun r w' => r = .returned (.bool true) ∧ Below w.heap.size w w' := by
  have hA := ((Below.refl w.heap.size w).alloc (Nat.le_refl _) (.cells #[.slice g.a g.rules.length g.c] 24)).alloc (by simp) (.cells #[.slice h.a h.rules.length h.c] 24)
  have heq := equalF_any g h he _ (hg.grow hA) (hh.grow hA)
  rw [gval_eq, gval_eq]
  clear hg hh he
  go_enter Tryz.func8, Tryz.ntmps8
  go_wp2_with (go_at_call 15; refine heq.mono ?_; rintro e w1 ⟨rfl, hb1⟩)
  go_ret
  exact ⟨rfl, hA.trans (hb1.mono hA.size)⟩
end Go.Proofs.YtbeohmcmphebhaaGreatDoor
namespace Go.Proofs.YtbeohmcmphebhaaGreatDoor
open Go.RowKit
set_option linter.unusedVariables false
/-- What may stand behind, where a prefix, a sequence, an alternative ends. -/
def c2 (r : List UInt8) : Prop := ok3 r ∧ nokA r ∧ kindB (tok r).k = 0
def c1 (r : List UInt8) : Prop := c2 r ∧ begins (tok r).k = false
def c0 (r : List UInt8) : Prop := c1 r ∧ (tok r).k ≠ 47
def P3 (a : Ex) : Prop := ∀ n r, ok3 r → nokA r → (a.bt 3 ++ r).length ≤ n → pp (preP n) (tok (a.bt 3 ++ r)) = postL (tok r).s.length a.er (tok r)
def P2 (a : Ex) : Prop := ∀ n r, c2 r → (a.bt 2 ++ r).length < n → preP n (tok (a.bt 2 ++ r)) = .ok (a.er, tok r)
def P1 (a : Ex) : Prop := ∀ n r, c1 r → (a.bt 1 ++ r).length < n → seqP (preP n) (tok (a.bt 1 ++ r)) = .ok (a.er, tok r)
def P0 (a : Ex) : Prop := ∀ n r, c0 r → (a.pr ++ r).length < n → altP (preP n) (tok (a.pr ++ r)) = .ok (a.er, tok r)
theorem seqP_begins {n : Nat} {t : Tk} {x : Ex × Tk} (h : seqP (preP n) t = .ok x) : begins t.k = true := by
  unfold seqP at h
  cases hp : preP n t with
  | error s => rw [hp, thn_error] at h; cases h
  | ok y => exact preP_begins hp
theorem altP_begins {n : Nat} {t : Tk} {x : Ex × Tk} (h : altP (preP n) t = .ok x) : begins t.k = true := by
  unfold altP at h
  cases hp : seqP (preP n) t with
  | error s => rw [hp, thn_error] at h; cases h
  | ok y => exact seqP_begins hp
theorem begins_ok3 {l : List UInt8} (h : begins (tok l).k = true) : ok3 l := by
  unfold ok3; intro e; rw [e] at h; revert h; decide
theorem begins_kindB {k : UInt8} (h : begins k = true) : kindB k = 0 := by
  rcases begins_cases h with rfl | rfl | rfl | rfl <;> rfl
theorem begins_ne2 {k : UInt8} (h : begins k = true) : k ≠ 2 := by rcases begins_cases h with rfl | rfl | rfl | rfl <;> decide
theorem nok32 (l : List UInt8) : nok (32 :: l) := fun c s h => by cases h; decide
/-- The rest of a sequence. -/
def tl2 (l : List Ex) : List UInt8 := Lib.joinTail [32] (l.map (Ex.bt 2))
theorem tl2_cons (x : Ex) (l : List Ex) (r : List UInt8) : tl2 (x :: l) ++ r = 32 :: (x.bt 2 ++ (tl2 l ++ r)) := by simp [tl2, Lib.joinTail]
theorem tl2_c2 (n : Nat) : ∀ (l : List Ex) (r : List UInt8), (∀ x ∈ l, P2 x) → c1 r → (tl2 l ++ r).length < n → c2 (tl2 l ++ r) := by
  intro l
  induction l with
  | nil => intro r _ hr _; exact hr.1
  | cons x l ih =>
    intro r hx hr hn
    rw [tl2_cons] at hn ⊢
    simp at hn
    have h2 := ih r (fun y hy => hx y (List.mem_cons_of_mem _ hy)) hr (by simp; omega)
    have h3 := hx x List.mem_cons_self n (tl2 l ++ r) h2 (by simp; omega)
    have hb := preP_begins h3
    unfold c2 ok3 nokA
    rw [tok_blank]
    exact ⟨begins_ok3 hb, ⟨nok32 _, begins_ne2 hb⟩, begins_kindB hb⟩
theorem seqL_items (n : Nat) : ∀ (l : List Ex) (m : Nat) (acc : List Ex) (r : List UInt8), (∀ x ∈ l, P2 x) → c1 r → (tl2 l ++ r).length < n → (tok (tl2 l ++ r)).s.length ≤ m → seqL (preP n) m acc (tok (tl2 l ++ r)) = .ok (gath 5 (acc ++ l.map Ex.er), tok r) := by
  intro l
  induction l with
  | nil =>
    intro m acc r _ hr _ _
    have e : tl2 [] ++ r = r := rfl
    rw [e]
    simp only [List.map_nil, List.append_nil]
    cases m with
    | zero => rfl
    | succ m => rw [seqL, if_neg (by rw [hr.2]; decide)]
  | cons x l ih =>
    intro m acc r hx hr hn hm
    have hc2 := tl2_c2 n l r (fun y hy => hx y (List.mem_cons_of_mem _ hy)) hr (by rw [tl2_cons] at hn; simp at hn ⊢; omega)
    rw [tl2_cons, tok_blank] at hm ⊢
    rw [tl2_cons] at hn
    simp at hn
    have h3 := hx x List.mem_cons_self n (tl2 l ++ r) hc2 (by simp; omega)
    have hb := preP_begins h3
    have hof := tok_of (x.bt 2 ++ (tl2 l ++ r)) _ (List.suffix_refl _) (begins_ok3 hb)
    have hfin := preP_fine (T := x.bt 2 ++ (tl2 l ++ r)) n _ hof (by have := tok_len (x.bt 2 ++ (tl2 l ++ r)); simp at this; omega)
    rw [h3] at hfin
    have hlt := hfin.2.1
    simp only at hlt
    cases m with
    | zero => omega
    | succ m =>
      rw [seqL, if_pos hb, h3, thn_ok]
      simp only
      rw [ih m (acc ++ [x.er]) r (fun y hy => hx y (List.mem_cons_of_mem _ hy)) hr (by simp; omega) (by omega)]
      simp
theorem P1_of (a : Ex) (ha : a.okA = true) (H : ∀ u ∈ items2 a, P2 u) : P1 a := by
  intro n r hr hn
  rw [bt1_items a] at hn ⊢
  have hne := items2_ne ha
  cases hl : items2 a with
  | nil => exact absurd hl hne
  | cons x l =>
    rw [hl] at H hn
    rw [List.map_cons, Lib.join_cons, List.append_assoc] at hn ⊢
    rw [show Lib.joinTail [32] (l.map (Ex.bt 2)) = tl2 l from rfl] at hn ⊢
    simp at hn
    have hc := tl2_c2 n l r (fun y hy => H y (List.mem_cons_of_mem _ hy)) hr (by simp; omega)
    have h3 := H x List.mem_cons_self n (tl2 l ++ r) hc (by simp; omega)
    unfold seqP
    rw [h3, thn_ok]
    simp only
    rw [seqL_items n l _ [x.er] r (fun y hy => H y (List.mem_cons_of_mem _ hy)) hr (by simp; omega) (Nat.le_refl _)]
    congr 2
    have hg : [x.er] ++ l.map Ex.er = (items2 a).map Ex.er := by rw [hl]; rfl
    rw [hg]
    unfold items2
    by_cases h5 : a.k = 5
    · rw [if_pos h5]
      have h2 := kids_two ha (.inl h5)
      unfold gath
      rw [if_neg (by rw [List.length_map]; omega), nd_er a ha (by omega), h5]
    · rw [if_neg h5]; rfl
/-- The rest of alternatives. -/
def tl1 (l : List Ex) : List UInt8 := Lib.joinTail [32, 47, 32] (l.map (Ex.bt 1))
theorem tl1_cons (x : Ex) (l : List Ex) (r : List UInt8) : tl1 (x :: l) ++ r = 32 :: 47 :: 32 :: (x.bt 1 ++ (tl1 l ++ r)) := by simp [tl1, Lib.joinTail]
theorem tl1_c1 : ∀ (l : List Ex) (r : List UInt8), c0 r → c1 (tl1 l ++ r) := by
  intro l r hr
  cases l with
  | nil => exact hr.1
  | cons x l =>
    rw [tl1_cons]
    unfold c1 c2 ok3 nokA
    rw [tok_blank, tok_sign 47 _ rfl]
    exact ⟨⟨show (47 : UInt8) ≠ 4 from by decide, ⟨nok32 _, show (47 : UInt8) ≠ 2 from by decide⟩, rfl⟩, rfl⟩
theorem altL_items (n : Nat) : ∀ (l : List Ex) (m : Nat) (acc : List Ex) (r : List UInt8), (∀ x ∈ l, P1 x) → c0 r → (tl1 l ++ r).length < n → (tok (tl1 l ++ r)).s.length ≤ m → altL (preP n) m acc (tok (tl1 l ++ r)) = .ok (gath 6 (acc ++ l.map Ex.er), tok r) := by
  intro l
  induction l with
  | nil =>
    intro m acc r _ hr _ _
    have e : tl1 [] ++ r = r := rfl
    rw [e]
    simp only [List.map_nil, List.append_nil]
    cases m with
    | zero => rfl
    | succ m => rw [altL, if_neg hr.2]
  | cons x l ih =>
    intro m acc r hx hr hn hm
    have hc := tl1_c1 l r hr
    rw [tl1_cons, tok_blank, tok_sign 47 _ rfl] at hm ⊢
    rw [tl1_cons] at hn
    simp at hn hm
    have h3 := hx x List.mem_cons_self n (tl1 l ++ r) hc (by simp; omega)
    have hb := seqP_begins h3
    have h4 : ok3 (32 :: (x.bt 1 ++ (tl1 l ++ r))) := by unfold ok3; rw [tok_blank]; exact begins_ok3 hb
    cases m with
    | zero => omega
    | succ m =>
      rw [altL, if_pos rfl, take_tk h4, thn_ok, tok_blank, h3, thn_ok]
      simp only
      have hl := tok_len (tl1 l ++ r)
      simp at hl
      rw [ih m (acc ++ [x.er]) r (fun y hy => hx y (List.mem_cons_of_mem _ hy)) hr (by simp; omega) (by omega)]
      simp
theorem P0_of (a : Ex) (ha : a.okA = true) (H : ∀ u ∈ items1 a, P1 u) : P0 a := by
  intro n r hr hn
  rw [pr_items a] at hn ⊢
  have hne := items1_ne ha
  cases hl : items1 a with
  | nil => exact absurd hl hne
  | cons x l =>
    rw [hl] at H hn
    rw [List.map_cons, Lib.join_cons, List.append_assoc] at hn ⊢
    rw [show Lib.joinTail [32, 47, 32] (l.map (Ex.bt 1)) = tl1 l from rfl] at hn ⊢
    simp at hn
    have hc := tl1_c1 l r hr
    have h3 := H x List.mem_cons_self n (tl1 l ++ r) hc (by simp; omega)
    unfold altP
    rw [h3, thn_ok]
    simp only
    rw [altL_items n l _ [x.er] r (fun y hy => H y (List.mem_cons_of_mem _ hy)) hr (by simp; omega) (Nat.le_refl _)]
    congr 2
    have hg : [x.er] ++ l.map Ex.er = (items1 a).map Ex.er := by rw [hl]; rfl
    rw [hg]
    unfold items1
    by_cases h6 : a.k = 6
    · rw [if_pos h6]
      have h2 := kids_two ha (.inr h6)
      unfold gath
      rw [if_neg (by rw [List.length_map]; omega), nd_er a ha (by omega), h6]
    · rw [if_neg h6]; rfl
theorem postL_no' {m : Nat} {e : Ex} {u : Tk} (h : kindB u.k = 0) : postL m e u = .ok (e, u) := by
  cases m with
  | zero => rfl
  | succ g => rw [postL, if_pos h]
theorem c0_41 (r : List UInt8) : c0 (41 :: r) := by
  unfold c0 c1 c2 ok3 nokA
  rw [tok_sign 41 _ rfl]
  exact ⟨⟨⟨show (41 : UInt8) ≠ 4 from by decide, ⟨fun c s h => by cases h; decide, show (41 : UInt8) ≠ 2 from by decide⟩, rfl⟩, rfl⟩, show (41 : UInt8) ≠ 47 from by decide⟩
theorem sgn_kind (k : Int) (h : 7 ≤ k ∧ k ≤ 9) : kindB (sgn k) = k ∧ isSg (sgn k) = true := by
  have : k = 7 ∨ k = 8 ∨ k = 9 := by omega
  rcases this with rfl | rfl | rfl <;> decide
set_option maxHeartbeats 1000000 in
theorem back_all : ∀ (N : Nat) (a : Ex), a.size ≤ N → a.okA = true → P2 a ∧ P3 a := by
  intro N
  induction N with
  | zero => intro a h; rw [size_eq] at h; omega
  | succ N ih =>
    intro a haN ha
    have hkid : ∀ x ∈ a.kids, P2 x ∧ P3 x := fun x hx => ih x (by have := size_kid hx; omega) (okA_kid ha hx)
    have hpre : a.k = 10 ∨ a.k = 11 → P2 a := by
      intro hk n r hr hn
      obtain ⟨x, hx, hxo, hxs⟩ := star_kid ha (by omega)
      have hx2 := (ih x (by omega) hxo).1
      have he := nd_er a ha (by omega)
      rw [hx] at he
      cases n with
      | zero => omega
      | succ n =>
        rcases hk with hk | hk
        · have hb := pre_bt 38 10 (.inl ⟨rfl, rfl⟩) a x hk hx
          rw [hb, List.cons_append] at hn ⊢
          have h3 := hx2 n r hr (by simpa using hn)
          rw [tok_sign 38 _ rfl, preP, if_pos rfl, take_tk (begins_ok3 (preP_begins h3)), thn_ok, h3, thn_ok, he, hk]
          rfl
        · have hb := pre_bt 33 11 (.inr ⟨rfl, rfl⟩) a x hk hx
          rw [hb, List.cons_append] at hn ⊢
          have h3 := hx2 n r hr (by simpa using hn)
          rw [tok_sign 33 _ rfl, preP, if_neg (show ¬ (33 : UInt8) = 38 from by decide), if_pos rfl, take_tk (begins_ok3 (preP_begins h3)), thn_ok, h3, thn_ok, he, hk]
          rfl
    have h0 : a.k = 5 ∨ a.k = 6 ∨ a.k = 10 ∨ a.k = 11 → P0 a := by
      intro hk
      refine P0_of a ha fun u hu => ?_
      by_cases h6 : a.k = 6
      · unfold items1 at hu
        rw [if_pos h6] at hu
        have hus := size_kid hu
        refine P1_of u (okA_kid ha hu) fun v hv => (ih v ?_ (items2_ok (okA_kid ha hu) v hv)).1
        exact items2_size N (by omega) v hv
      · unfold items1 at hu
        rw [if_neg h6] at hu
        simp at hu
        subst hu
        refine P1_of u ha fun v hv => ?_
        by_cases h5 : u.k = 5
        · unfold items2 at hv
          rw [if_pos h5] at hv
          exact (hkid v hv).1
        · unfold items2 at hv
          rw [if_neg h5] at hv
          simp at hv
          subst hv
          exact hpre (by omega)
    have h3 : P3 a := by
      intro n r hr hn hlen
      by_cases h7 : 7 ≤ a.k ∧ a.k ≤ 9
      · obtain ⟨x, hx, hxo, hxs⟩ := star_kid ha h7.1
        obtain ⟨hs1, hs2⟩ := sgn_kind a.k h7
        have hb := star_bt a x h7 hx
        rw [hb, List.append_assoc, List.singleton_append] at hlen ⊢
        rw [(ih x (by omega) hxo).2 n (sgn a.k :: r) (ok3_sign _ _ hs2) ⟨fun c s h => by cases h; exact post_not_ok _ (sgn_post _), by rw [tok_sign _ _ hs2]; exact (sg_ne hs2).2.2.2⟩ hlen]
        rw [tok_sign _ r hs2]
        show postL (r.length + 1) x.er _ = _
        rw [postL]
        simp only
        rw [hs1, if_neg (by omega), take_tk hr, thn_ok, postL_any _ (tok r).s.length _ r (tok_len r) (Nat.le_refl _) hr]
        have he := nd_er a ha (by omega)
        rw [hx] at he
        rw [he]; rfl
      · unfold pp
        rw [prim_base (preP n) a ha h7 r hr hn, thn_ok]
        intro hk
        have hbk := bt_brk 3 a (by have := tight_cases a.k; omega)
        rw [hbk] at hlen
        have := h0 hk n (41 :: r) (c0_41 r) (by simp at hlen ⊢; omega)
        exact ⟨this, altP_begins this⟩
    refine ⟨?_, h3⟩
    by_cases hk : a.k = 10 ∨ a.k = 11
    · exact hpre hk
    · intro n r hr hn
      rw [bt23 a (by omega)] at hn ⊢
      cases n with
      | zero => omega
      | succ n =>
        have h4 := h3 n r hr.1 hr.2.1 (by omega)
        rw [postL_no' hr.2.2] at h4
        have hnb : (tok (a.bt 3 ++ r)).k = 1 ∨ (tok (a.bt 3 ++ r)).k = 40 := by
          unfold pp primP at h4
          by_cases h1 : (tok (a.bt 3 ++ r)).k = 1
          · exact .inl h1
          · by_cases h40 : (tok (a.bt 3 ++ r)).k = 40
            · exact .inr h40
            · rw [if_neg h1, if_neg h40, thn_error] at h4; cases h4
        rw [preP, if_neg (by rcases hnb with h | h <;> rw [h] <;> decide), if_neg (by rcases hnb with h | h <;> rw [h] <;> decide)]
        exact h4
/-- What is printed is read as it was, whatever may stand behind. -/
theorem p0_all (a : Ex) (ha : a.okA = true) : P0 a := P0_of a ha fun u hu => P1_of u (items1_ok ha u hu) fun v hv => (back_all v.size v (Nat.le_refl _) (items2_ok (items1_ok ha u hu) v hv)).1
end Go.Proofs.YtbeohmcmphebhaaGreatDoor
