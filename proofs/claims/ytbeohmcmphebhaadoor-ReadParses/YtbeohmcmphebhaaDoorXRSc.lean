import Derived.Test.YtbeohmcmphebhaaDoorXRSa
namespace Go.Proofs.YtbeohmcmphebhaaDoor
open Go.RowKit
set_option linter.unusedVariables false
/-! Tokens one behind the other, as far as they have been cut. -/
structure Pt (T : List UInt8) (L : List Tk) (l : List UInt8) : Prop where
  is : ∀ (j : Nat) (t : Tk), L[j]? = some t → t = tokS t.s ∧ t.s <:+ T
  nx : ∀ (j : Nat) (t : Tk), L[j]? = some t → (L ++ [tok l])[j + 1]? = some (tok t.r)
  fst : (L ++ [tok l])[0]? = some (tok T)
  len : L.length + l.length ≤ T.length
  suf : l <:+ T
theorem Pt.start (T : List UInt8) : Pt T [] T := ⟨fun j t h => by simp at h, fun j t h => by simp at h, rfl, by simp, List.suffix_refl _⟩
theorem tok_suf (l : List UInt8) : (tok l).s <:+ l := by unfold tok; rw [tokS_s]; exact skip_suf l
theorem tok_self (l : List UInt8) : tok l = tokS (tok l).s := by unfold tok; rw [tokS_s]
theorem app_get {α : Type} (L : List α) (x : α) (j : Nat) (t : α) (h : (L ++ [x])[j]? = some t) : L[j]? = some t ∨ (j = L.length ∧ t = x) := by
  by_cases hj : j < L.length
  · left; rwa [List.getElem?_append_left hj] at h
  · right
    have := (List.getElem?_eq_some_iff.1 h).1
    simp at this
    have hj : j = L.length := by omega
    subst hj
    simp at h
    exact ⟨rfl, h.symm⟩
theorem Pt.push {T : List UInt8} {L : List Tk} {l : List UInt8} (h : Pt T L l) (h0 : (tok l).k ≠ 0) (h4 : (tok l).k ≠ 4) : Pt T (L ++ [tok l]) (tok l).r := by
  have hr := tokS_r (tok l).s (by rw [← tok_self]; exact h0) (by rw [← tok_self]; exact h4)
  rw [← tok_self] at hr
  have hs := tok_suf l
  refine ⟨fun j t hj => ?_, fun j t hj => ?_, ?_, ?_, hr.2.trans (hs.trans h.suf)⟩
  · rcases app_get _ _ _ _ hj with hj | ⟨_, rfl⟩
    · exact h.is j t hj
    · exact ⟨tok_self l, hs.trans h.suf⟩
  · rcases app_get _ _ _ _ hj with hj | ⟨rfl, rfl⟩
    · have h1 := h.nx j t hj
      have := (List.getElem?_eq_some_iff.1 h1).1
      rw [List.getElem?_append_left this]; exact h1
    · rw [List.getElem?_append_right (by simp)]; simp
  · rw [List.getElem?_append_left (by simp)]; exact h.fst
  · have := h.len
    have := hr.1
    have := hs.length_le
    simp; omega
theorem Pt.fin {T : ByteArray} {L : List Tk} {l : List UInt8} (h : Pt T.data.toList L l) (h4 : (tok l).k = 0 ∨ (tok l).k = 4) : TL T (L ++ [tok l]) ∧ (L ++ [tok l])[0]? = some (tok T.data.toList) := by
  refine ⟨⟨fun j t hj => ?_, fun j t hj k0 k4 => ?_, ?_⟩, h.fst⟩
  · rcases app_get _ _ _ _ hj with hj | ⟨_, rfl⟩
    · exact h.is j t hj
    · exact ⟨tok_self l, (tok_suf l).trans h.suf⟩
  · rcases app_get _ _ _ _ hj with hj | ⟨_, rfl⟩
    · exact h.nx j t hj
    · rcases h4 with h | h
      · exact absurd h k0
      · exact absurd h k4
  · have := h.len
    rw [llen] at this
    simp; omega
/-! What a token is, by its first byte. -/
def tkN (k : UInt8) (s r : List UInt8) (e : Ex) : Tk := ⟨k, s, r, e⟩
theorem tok_at (l s : List UInt8) (h : skip l = s) : tok l = arr (tokB s) := by unfold tok tokS; rw [h]
theorem arr_id2 (t : Tk) (h3 : t.k ≠ 3) (h : t.k ≠ 1 ∨ t.e.k ≠ 4) : arr t = t := arr_no t h3
theorem arr_none (s : List UInt8) : arr ⟨3, s, [], nd 0 []⟩ = ⟨4, s, [], nd 0 []⟩ := rfl
theorem tokB_leaf (c : UInt8) (r : List UInt8) (h60 : c ≠ 60) (hsg : isSg c = false) : tokB (c :: r) = match leafAt (c :: r) with | some x => ⟨1, c :: r, (c :: r).drop x.2, x.1⟩ | none => ⟨3, c :: r, [], nd 0 []⟩ := by
  unfold tokB
  rw [if_neg (by simp), if_neg (fun h => h60 h.1), if_neg (by show ¬ isSg c = true; rw [hsg]; decide)]
  cases leafAt (c :: r) <;> rfl
theorem leafAt_cons (c : UInt8) (r : List UInt8) : leafAt (c :: r) = if c = 39 ∨ c = 34 then (unlit [39, 34, 92] (c :: r)).map fun x => (if x.1 = [] then nd 1 [] else lfT 3 x.1, x.2)
  else if c = 91 then (unclass (c :: r)).map fun x => (lfS x.1, x.2)
  else if c = 46 then some (lfS (BitVec.allOnes 256), 1)
  else if isL (c.toNat : Int) then some (lfT 4 ((c :: r).takeWhile okc), ((c :: r).takeWhile okc).length)
  else none := rfl
theorem rt_end (l : List UInt8) (h : skip l = []) : tok l = ⟨0, [], [], nd 0 []⟩ := by rw [tok_at l [] h]; rfl
theorem rt_lit (l : List UInt8) (c : UInt8) (r : List UInt8) (h : skip l = c :: r) (hc : c = 39 ∨ c = 34) :
    tok l = match unlit [39, 34, 92] (c :: r) with | some x => ⟨1, c :: r, (c :: r).drop x.2, if x.1 = [] then nd 1 [] else lfT 3 x.1⟩ | none => ⟨4, c :: r, [], nd 0 []⟩ := by
  rw [tok_at l _ h, tokB_leaf c r (by rcases hc with rfl | rfl <;> decide) (by rcases hc with rfl | rfl <;> decide)]
  have hl : leafAt (c :: r) = (unlit [39, 34, 92] (c :: r)).map fun x => (if x.1 = [] then nd 1 [] else lfT 3 x.1, x.2) := by rw [leafAt_cons, if_pos hc]
  rw [hl]
  cases unlit [39, 34, 92] (c :: r) with
  | none => rfl
  | some x =>
    refine arr_id2 _ (by show (1 : UInt8) ≠ 3; decide) (.inr ?_)
    show (if x.1 = [] then nd 1 [] else lfT 3 x.1).k ≠ 4
    split
    · show (1 : Int) ≠ 4; decide
    · show (3 : Int) ≠ 4; decide
theorem rt_cls (l : List UInt8) (r : List UInt8) (h : skip l = 91 :: r) :
    tok l = match unclass (91 :: r) with | some x => ⟨1, 91 :: r, (91 :: r).drop x.2, lfS x.1⟩ | none => ⟨4, 91 :: r, [], nd 0 []⟩ := by
  rw [tok_at l _ h, tokB_leaf 91 r (by decide) (by decide)]
  have hl : leafAt (91 :: r) = (unclass (91 :: r)).map fun x => (lfS x.1, x.2) := by rw [leafAt_cons, if_neg (by decide), if_pos rfl]
  rw [hl]
  cases unclass (91 :: r) with
  | none => rfl
  | some x => exact arr_id2 _ (by show (1 : UInt8) ≠ 3; decide) (.inr (by show (2 : Int) ≠ 4; decide))
theorem rt_dot (l : List UInt8) (r : List UInt8) (h : skip l = 46 :: r) : tok l = ⟨1, 46 :: r, r, lfS (BitVec.allOnes 256)⟩ := by
  rw [tok_at l _ h, tokB_leaf 46 r (by decide) (by decide)]
  have hl : leafAt (46 :: r) = some (lfS (BitVec.allOnes 256), 1) := by rw [leafAt_cons, if_neg (by decide), if_neg (by decide), if_pos rfl]
  rw [hl]
  exact arr_id2 _ (by show (1 : UInt8) ≠ 3; decide) (.inr (by show (2 : Int) ≠ 4; decide))
theorem isL_sg {c : UInt8} (h : isL (c.toNat : Int) = true) : c ≠ 60 ∧ isSg c = false := by
  constructor
  · rintro rfl; revert h; decide
  · have : ∀ k : Fin 256, isL (k.val : Int) = true → isSg (UInt8.ofNat k.val) = false := by decide +kernel
    have := this ⟨c.toNat, c.toNat_lt⟩
    simp at this
    exact this h
theorem rt_name (l : List UInt8) (c : UInt8) (r : List UInt8) (h : skip l = c :: r) (hc : isL (c.toNat : Int) = true) :
    tok l = ⟨1, c :: r, (c :: r).drop ((c :: r).takeWhile okc).length, lfT 4 ((c :: r).takeWhile okc)⟩ := by
  obtain ⟨h1, h2, h3, h4⟩ := isL_not hc
  rw [tok_at l _ h, tokB_leaf c r (isL_sg hc).1 (isL_sg hc).2]
  have hl : leafAt (c :: r) = some (lfT 4 ((c :: r).takeWhile okc), ((c :: r).takeWhile okc).length) := by rw [leafAt_cons, if_neg (by rintro (e | e) <;> contradiction), if_neg h3, if_neg h4, if_pos hc]
  rw [hl]
  exact arr_no _ (by show (1 : UInt8) ≠ 3; decide)
theorem rt_arrow (l : List UInt8) (r : List UInt8) (h : skip l = 60 :: 45 :: r) : tok l = ⟨2, 60 :: 45 :: r, r, nd 0 []⟩ := by
  rw [tok_at l _ h]
  unfold tokB
  rw [if_neg (by simp), if_pos ⟨rfl, rfl⟩]; rfl
theorem sg_ne4 : ∀ k : Fin 256, isSg (UInt8.ofNat k.val) = true → UInt8.ofNat k.val ≠ 60 ∧ UInt8.ofNat k.val ≠ 3 ∧ UInt8.ofNat k.val ≠ 1 := by decide +kernel
theorem rt_sign (l : List UInt8) (c : UInt8) (r : List UInt8) (h : skip l = c :: r) (hc : isSg c = true) : tok l = ⟨c, c :: r, r, nd 0 []⟩ := by
  have hn := sg_ne4 ⟨c.toNat, c.toNat_lt⟩
  simp at hn
  obtain ⟨n1, n2, n3⟩ := hn hc
  rw [tok_at l _ h]
  unfold tokB
  rw [if_neg (by simp), if_neg (fun h => n1 h.1), if_pos (by exact hc)]
  exact arr_id2 _ n2 (.inl n3)
theorem rt_none (l : List UInt8) (c : UInt8) (r : List UInt8) (h : skip l = c :: r) (h1 : ¬ (c = 39 ∨ c = 34)) (h2 : ¬ c = 91) (h3 : ¬ c = 46) (h4 : isL (c.toNat : Int) = false) (h5 : ¬ (c = 60 ∧ r.headD 0 = 45)) (h6 : isSg c = false) : tok l = ⟨4, c :: r, [], nd 0 []⟩ := by
  rw [tok_at l _ h]
  unfold tokB
  rw [if_neg (by simp), if_neg (show ¬ ((c :: r).headD 0 = 60 ∧ ((c :: r).drop 1).headD 0 = 45) from h5), if_neg (by show ¬ isSg c = true; rw [h6]; decide)]
  have hl : leafAt (c :: r) = none := by rw [leafAt_cons, if_neg h1, if_neg h2, if_neg h3, if_neg (by rw [h4]; decide)]
  rw [hl]; rfl
end Go.Proofs.YtbeohmcmphebhaaDoor
namespace Go.Proofs.YtbeohmcmphebhaaDoor
open Go.RowKit
set_option linter.unusedVariables false
def tkL (n : Nat) (l : List Tk) : List Value := l.flatMap fun t => (tkcs n t).toList
theorem tkL_len (n : Nat) : ∀ l : List Tk, (tkL n l).length = l.length * 10
  | [] => rfl
  | x :: r => by rw [show tkL n (x :: r) = (tkcs n x).toList ++ tkL n r from rfl, List.length_append, tkL_len n r, List.length_cons]; show 10 + _ = _; omega
theorem tkL_at (n : Nat) : ∀ (l : List Tk) (i j : Nat) (x : Tk), l[i]? = some x → j < 10 → (tkL n l)[i * 10 + j]? = (tkcs n x)[j]?
  | [], i, j, x, h, _ => by simp at h
  | y :: r, 0, j, x, h, hj => by
    simp at h; subst h
    rw [show tkL n (y :: r) = (tkcs n y).toList ++ tkL n r from rfl, Nat.zero_mul, Nat.zero_add, List.getElem?_append_left (by show j < 10; exact hj), Array.getElem?_toList]
  | y :: r, i + 1, j, x, h, hj => by
    rw [show tkL n (y :: r) = (tkcs n y).toList ++ tkL n r from rfl, List.getElem?_append_right (by show 10 ≤ _; omega), show (i + 1) * 10 + j - (tkcs n y).toList.length = i * 10 + j from by show _ - 10 = _; omega]
    exact tkL_at n r i j x (by simpa using h) hj
theorem tkL_app (n : Nat) (l : List Tk) (x : Tk) : tkL n (l ++ [x]) = tkL n l ++ (tkcs n x).toList := by simp [tkL]
theorem tk_one (n : Nat) (x : Tk) : ∀ u ∈ (tkcs n x).toList, u.oneCell' = true := by
  intro u hu
  simp [tkcs] at hu
  rcases hu with rfl | rfl | rfl | rfl | rfl | rfl | rfl | rfl | rfl | rfl <;> rfl
def zt : Array Value := #[.int .u8 0, .int .i64 0, .int .i64 0, .int .u64 0, .int .u64 0, .int .u64 0, .int .u64 0, .string ⟨#[]⟩, .slice none 0 0, .string ⟨#[]⟩]
theorem Tryd.infoT : (Tryd.prog.info? 47).map (fun i => (i.zero, i.size, i.bytes)) = some (some (.agg zt), 10, 112) := by kernel_rfl
theorem Tryd.underlyingT : Tryd.prog.underlying 42 = some (.slice 47) := by kernel_rfl
/-- Where the tokens lie that have been cut. -/
structure Tq (n : Nat) (w wr : World) (v : Value) (L : List Tk) : Prop where
  own : wr.ownsRow w.heap.size 47 10 v L.length (tkL n L)
  bel : Below w.heap.size w wr
theorem Tq.start (n : Nat) (w : World) : Tq n w w (.slice none 0 0) [] := ⟨World.ownsRow_nil _ _ _ _, Below.refl _ w⟩
theorem Tq.below {n : Nat} {w wr w1 : World} {v : Value} {L : List Tk} (h : Tq n w wr v L) (hb : Below wr.heap.size wr w1) : Tq n w w1 v L :=
  ⟨h.own.kept (below_grown hb) (by cases v.ownBlock <;> simp), h.bel.trans (hb.mono h.bel.size)⟩
theorem Tq.alloc {n : Nat} {w wr : World} {v : Value} {L : List Tk} (h : Tq n w wr v L) (o : Obj) : Tq n w (wr.alloc o) v L := h.below ((Below.refl _ wr).alloc (Nat.le_refl _) o)
theorem Tq.drew {n : Nat} {w wr : World} {v : Value} {L : List Tk} (h : Tq n w wr v L) : Tq n w wr.drew v L := h.below (Below.refl _ wr).drew
theorem Tq.blk {n : Nat} {w wr : World} {v : Value} {L : List Tk} (h : Tq n w wr v L) (k : Nat) (hk : v.ownBlock = some k) : w.heap.size ≤ k ∧ k < wr.heap.size := h.own.lt k hk
/-- A box of the round's own was turned. -/
theorem Tq.box {n P : Nat} {w wr w1 : World} {v : Value} {L : List Tk} (h : Tq n w wr v L) (hP : ∀ k, v.ownBlock = some k → k < P) (hw : w.heap.size ≤ P) (hg : wr.grownBy w1 (some P)) : Tq n w w1 v L :=
  ⟨h.own.kept hg (by
    cases hv : v.ownBlock with
    | none => exact .inl rfl
    | some k => right; have := hP k hv; intro e; cases e; omega), h.bel.grown hg h.bel.size (fun k e => by cases e; exact hw)⟩
theorem Tq.tw {n g m cap : Nat} {w wr : World} {L : List Tk} (h : Tq n w wr (.slice (some ⟨g, 0, none⟩) m cap) L) : TW n g L wr := by
  refine ⟨(h.blk g rfl).2, fun j t hj m hm => ?_⟩
  have h1 := tkL_at n L j m t hj hm
  obtain ⟨v, hv⟩ : ∃ v, (tkcs n t)[m]? = some v := ⟨_, Array.getElem?_eq_getElem (by show m < 10; exact hm)⟩
  rw [hv] at h1 ⊢
  have := World.ownsRow.cells h.own (g := g) rfl _ _ h1
  rwa [Addr.add_lit, Nat.zero_add] at this
theorem wpList_app_tk {ops : Array Oper} {rest : List Oper} {o : Oper} {a : Act} {Q : Exit → Act → World → Prop} (hgd : o.guard = none) (s x : Operand)
    (ho : o.op = .call { callee := .builtin .append, args := #[s, x], argTypes := #[42, 42] }) {n : Nat} {w w1 : World} {v : Value} {L : List Tk} {t : Tk} {cs : Array Value} (h : Tq n w w1 v L)
    (hs : a.eval s = v) {H : Nat} (hH : w1.heap.size = H) (hx : a.eval x = .slice (some ⟨H, 0, none⟩) 1 1) (hcs : cs = tkcs n t) (hl : L.length ≤ 2000000)
    (hK : ∀ g3 cap3 w3, Tq n w w3 (.slice (some ⟨g3, 0, none⟩) (L.length + 1) cap3) (L ++ [t]) → wpList Tryd.prog ops Q rest (a.put o.dst (.slice (some ⟨g3, 0, none⟩) (L.length + 1) cap3)) w3) :
    wpList Tryd.prog ops Q (o :: rest) a (w1.alloc (.cells cs 47)) := by
  obtain ⟨i0, hi, hz0, hz1, hz2⟩ := info_parts Tryd.infoT
  subst hcs
  have hbs := h.bel.size
  have h1 := h.own.kept (World.grownBy_alloc w1 (.cells (tkcs n t) 47) none) (by cases v.ownBlock <;> simp)
  have hnews := World.news_of_block (World.alloc_heap_new w1 (.cells (tkcs n t) 47))
  subst hH
  refine wpList_append_lies _ hgd s x 42 ho w.heap.size 47 i0 (.agg zt) 10 112 Tryd.underlyingT hi hz0 hz1 hz2 rfl (by decide) v L.length (tkL n L) hs h1 ⟨w1.heap.size, 0, none⟩ 1 1 (tkcs n t).toList hx rfl hnews (tk_one n t) (by omega) (by unfold maxLen; omega) (by omega) (by simp; omega) (w1.heap.size + 1) (by simp) ?_
  intro g3 cap3 w3 hown hgr hor _
  refine hK g3 cap3 w3 ⟨by rw [tkL_app]; simpa using hown, ?_⟩
  have hA := h.alloc (.cells (tkcs n t) 47)
  exact hA.bel.grown hgr hA.bel.size (fun k hk => (h.blk k hk).1)
end Go.Proofs.YtbeohmcmphebhaaDoor
