import Derived.Test.YtbeohmcmphebhaaDoorXName
import Derived.Lib.Bytealg
import Derived.Test.YtbeohmcmphebhaaDoorProg
import Derived.WalkKit
import Derived.WalkSpells
import Derived.WalkLawsBesides
import Derived.Laws.IdiomStrings
import Derived.Laws.BytesArg
import Derived.Lib.AppendStr
namespace Go.Proofs.YtbeohmcmphebhaaDoor
open Go

/-- The sixteen digits. -/
def hexs : List UInt8 := [48, 49, 50, 51, 52, 53, 54, 55, 56, 57, 97, 98, 99, 100, 101, 102]
def hexc (n : Nat) : UInt8 := hexs.getD n 0
/-- A byte is among those of l. -/
def gd (l : List UInt8) (b : UInt8) : Bool := decide (0 ≤ Lib.indexByte l b)
/-- A byte as it is written: low: the least that stands as it is; g: those with a stroke ahead. -/
def sign (low : Nat) (g : List UInt8) (b : UInt8) : List UInt8 :=
  if b.toNat = 10 then [92, 110] else if b.toNat = 9 then [92, 116]
  else if gd g b then [92, b]
  else if b.toNat < low ∨ 126 < b.toNat then [92, 120, hexc (b.toNat / 16), hexc (b.toNat % 16)] else [b]
/-- A byte by two digits: its number and by how many bytes it is said; 0: none. -/
def hexAt (l : List UInt8) : Nat × Nat :=
  match l with
  | _ :: _ :: x :: y :: _ => if 0 ≤ Lib.indexByte hexs x ∧ 0 ≤ Lib.indexByte hexs y then (16 * (Lib.indexByte hexs x).toNat + (Lib.indexByte hexs y).toNat, 4) else (0, 0)
  | _ => (0, 0)
def strokeAt (g : List UInt8) (l : List UInt8) : Nat × Nat :=
  match l with
  | _ :: c :: _ => if c.toNat = 110 then (10, 2) else if c.toNat = 116 then (9, 2) else if c.toNat = 120 then hexAt l else if gd g c then (c.toNat, 2) else (0, 0)
  | _ => (0, 0)
def signAt (g : List UInt8) (l : List UInt8) : Nat × Nat :=
  match l with
  | [] => (0, 0)
  | a :: _ => if a.toNat = 10 then (0, 0) else if a.toNat ≠ 92 then (a.toNat, 1) else strokeAt g l
theorem idx_lt (l : List UInt8) (c : UInt8) : Lib.indexByte l c < l.length := by
  induction l with
  | nil => simp [Lib.indexByte]
  | cons b l ih =>
    rw [Lib.indexByte, List.length_cons]
    split
    · omega
    · split
      · omega
      · omega
theorem hexAt_lt (l : List UInt8) : (hexAt l).1 < 256 ∧ ((hexAt l).2 = 0 ∨ (hexAt l).2 = 4 ∧ 4 ≤ l.length) := by
  unfold hexAt
  split
  · rename_i x y r
    have h1 := idx_lt hexs x
    have h2 := idx_lt hexs y
    have h3 : hexs.length = 16 := rfl
    split
    · constructor
      · show 16 * _ + _ < 256; omega
      · right; simp
    · simp
  · simp
theorem strokeAt_lt (g l : List UInt8) : (strokeAt g l).1 < 256 ∧ (strokeAt g l).2 ≤ l.length := by
  unfold strokeAt
  split
  · rename_i a c r
    have h1 := hexAt_lt (a :: c :: r)
    have h2 := c.toNat_lt
    split
    · simp
    · split
      · simp
      · split
        · exact ⟨h1.1, by rcases h1.2 with h | h <;> omega⟩
        · split
          · exact ⟨h2, by simp⟩
          · simp
  · simp
theorem signAt_lt (g l : List UInt8) : (signAt g l).1 < 256 ∧ (signAt g l).2 ≤ l.length := by
  unfold signAt
  split
  · simp
  · rename_i a r
    have h1 := strokeAt_lt g (a :: r)
    have h2 := a.toNat_lt
    split
    · simp
    · split
      · exact ⟨h2, by simp⟩
      · exact h1
/-- A literal's bytes, from behind the first sign on, m bytes at most: q ends it. -/
def unlF (q : UInt8) (g : List UInt8) : Nat → List UInt8 → List UInt8 → Nat → Option (List UInt8 × Nat)
  | 0, _, _, _ => none
  | m + 1, rest, text, n =>
    match rest with
    | [] => none
    | a :: r => if a = q then some (text, n + 1) else if (signAt g (a :: r)).2 = 0 then none else unlF q g m ((a :: r).drop (signAt g (a :: r)).2) (text ++ [UInt8.ofNat (signAt g (a :: r)).1]) (n + (signAt g (a :: r)).2)
theorem unlF_any (q : UInt8) (g : List UInt8) : ∀ (m k : Nat) (rest text : List UInt8) (n : Nat), rest.length ≤ m → rest.length ≤ k → unlF q g m rest text n = unlF q g k rest text n := by
  intro m
  induction m with
  | zero =>
    intro k rest text n hm _
    have e : rest = [] := List.eq_nil_of_length_eq_zero (by omega)
    subst e
    cases k <;> rfl
  | succ m ih =>
    intro k rest text n hm hk
    cases rest with
    | nil => cases k <;> rfl
    | cons a r =>
      cases k with
      | zero => simp at hk
      | succ k =>
        rw [List.length_cons] at hm hk
        show (if a = q then _ else if _ then _ else _) = (if a = q then _ else if _ then _ else _)
        split
        · rfl
        · split
          · rfl
          · rename_i h0
            exact ih k _ _ _ (by rw [List.length_drop, List.length_cons]; omega) (by rw [List.length_drop, List.length_cons]; omega)
/-- A literal's bytes, from behind the first sign on: q ends it. -/
def unl (q : UInt8) (g : List UInt8) (rest text : List UInt8) (n : Nat) : Option (List UInt8 × Nat) := unlF q g rest.length rest text n
theorem unl_cons (q : UInt8) (g text : List UInt8) (a : UInt8) (r : List UInt8) (n : Nat) : unl q g (a :: r) text n = if a = q then some (text, n + 1) else if (signAt g (a :: r)).2 = 0 then none else unlF q g r.length ((a :: r).drop (signAt g (a :: r)).2) (text ++ [UInt8.ofNat (signAt g (a :: r)).1]) (n + (signAt g (a :: r)).2) := rfl
theorem unl_nil (q : UInt8) (g text : List UInt8) (n : Nat) : unl q g [] text n = none := rfl
theorem unl_end (q : UInt8) (g r text : List UInt8) (n : Nat) : unl q g (q :: r) text n = some (text, n + 1) := by rw [unl_cons, if_pos rfl]
theorem unl_bad (q : UInt8) (g text : List UInt8) (a : UInt8) (r : List UInt8) (n : Nat) (h : a ≠ q) (h0 : (signAt g (a :: r)).2 = 0) : unl q g (a :: r) text n = none := by rw [unl_cons, if_neg h, if_pos h0]
theorem unl_on (q : UInt8) (g text : List UInt8) (a : UInt8) (r : List UInt8) (n : Nat) (h : a ≠ q) (h0 : (signAt g (a :: r)).2 ≠ 0) : unl q g (a :: r) text n = unl q g ((a :: r).drop (signAt g (a :: r)).2) (text ++ [UInt8.ofNat (signAt g (a :: r)).1]) (n + (signAt g (a :: r)).2) := by
  rw [unl_cons, if_neg h, if_neg h0]
  exact unlF_any q g _ _ _ _ _ (by rw [List.length_drop, List.length_cons]; omega) (Nat.le_refl _)
/-- A literal at the beginning of l. -/
def unlit (g l : List UInt8) : Option (List UInt8 × Nat) :=
  match l with
  | [] => none
  | q :: r => if q.toNat = 39 ∨ q.toNat = 34 then unl q g r [] 1 else none
def uT (o : Option (List UInt8 × Nat)) : List UInt8 := match o with | some x => x.1 | none => []
def uN (o : Option (List UInt8 × Nat)) : Int := match o with | some x => x.2 | none => 0
def uE (o : Option (List UInt8 × Nat)) : Int := match o with | some _ => 0 | none => 4

/-- A literal. -/
def lit (l : List UInt8) : List UInt8 := 39 :: (l.flatMap (sign 32 [39, 92]) ++ [39])
theorem sign_len (low : Nat) (g : List UInt8) (b : UInt8) : (sign low g b).length ≤ 4 := by
  unfold sign; repeat' split
  all_goals simp
theorem flat_len (low : Nat) (g l : List UInt8) : (l.flatMap (sign low g)).length ≤ 4 * l.length := by
  induction l with
  | nil => simp
  | cons a l ih => have := sign_len low g a; simp only [List.flatMap_cons, List.length_append, List.length_cons]; omega
theorem flat_snoc (low : Nat) (g l : List UInt8) (b : UInt8) : (l ++ [b]).flatMap (sign low g) = l.flatMap (sign low g) ++ sign low g b := by simp
theorem toNat_eq {a b : UInt8} (h : a.toNat = b.toNat) : a = b := UInt8.toNat_inj.1 h

theorem hexc_idx (k : Nat) (h : k < 16) : Lib.indexByte hexs (hexc k) = (k : Int) :=
  (by decide : ∀ k : Fin 16, Lib.indexByte hexs (hexc k.val) = (k.val : Int)) ⟨k, h⟩
theorem hexc_vis (k : Nat) (h : k < 16) : 48 ≤ (hexc k).toNat ∧ (hexc k).toNat ≤ 102 :=
  (by decide : ∀ k : Fin 16, 48 ≤ (hexc k.val).toNat ∧ (hexc k.val).toNat ≤ 102) ⟨k, h⟩
theorem hexAt_back (b : UInt8) (r : List UInt8) : hexAt (92 :: 120 :: hexc (b.toNat / 16) :: hexc (b.toNat % 16) :: r) = (b.toNat, 4) := by
  have hb := b.toNat_lt
  unfold hexAt
  simp only [hexc_idx (b.toNat / 16) (by omega), hexc_idx (b.toNat % 16) (by omega)]
  rw [if_pos ⟨by omega, by omega⟩]
  congr 1
  omega
/-- What is written is read: a byte, whatever stands behind. -/
theorem sign_back (low : Nat) (g g' : List UInt8) (b : UInt8) (r : List UInt8) (hsub : gd g b = true → gd g' b = true) (h92 : gd g 92 = true)
    (hn : gd g 110 = false ∧ gd g 116 = false ∧ gd g 120 = false) : signAt g' (sign low g b ++ r) = (b.toNat, (sign low g b).length) := by
  unfold sign
  by_cases h10 : b.toNat = 10
  · rw [if_pos h10, h10]; rfl
  · rw [if_neg h10]
    by_cases h9 : b.toNat = 9
    · rw [if_pos h9, h9]; rfl
    · rw [if_neg h9]
      cases hg : gd g b
      · simp only [Bool.false_eq_true, if_false]
        split
        · show signAt g' (92 :: 120 :: _ :: _ :: r) = _
          unfold signAt strokeAt
          simp only [show (92 : UInt8).toNat = 92 from rfl, show (120 : UInt8).toNat = 120 from rfl]
          simp only [show ¬ (92 : Nat) = 10 from by omega, if_false, ne_eq, not_true_eq_false, show ¬ (120 : Nat) = 110 from by omega, show ¬ (120 : Nat) = 116 from by omega, if_true]
          exact hexAt_back b r
        · show signAt g' (b :: r) = _
          unfold signAt
          have : b.toNat ≠ 92 := fun e => by
            have e2 : b = 92 := toNat_eq e
            rw [e2, h92] at hg; cases hg
          simp only [h10, this, if_false, ne_eq, not_false_eq_true, if_true]
          rfl
      · simp only [if_true]
        show signAt g' (92 :: b :: r) = _
        unfold signAt strokeAt
        have ne : ∀ c : UInt8, gd g c = false → b.toNat ≠ c.toNat := fun c hc e => by rw [toNat_eq e, hc] at hg; cases hg
        have n1 : b.toNat ≠ 110 := ne 110 hn.1
        have n2 : b.toNat ≠ 116 := ne 116 hn.2.1
        have n3 : b.toNat ≠ 120 := ne 120 hn.2.2
        simp only [show (92 : UInt8).toNat = 92 from rfl, show ¬ (92 : Nat) = 10 from by omega, if_false, ne_eq, not_true_eq_false, n1, n2, n3, hsub hg, if_true]
        rfl
theorem sign_ne (low : Nat) (g : List UInt8) (b : UInt8) : 0 < (sign low g b).length := by
  unfold sign; repeat' split
  all_goals simp
/-- No byte is written with q first, if q has a stroke ahead and is none. -/
theorem sign_head (low : Nat) (g : List UInt8) (b q : UInt8) (hq : gd g q = true) (h92 : q ≠ 92) : ∃ a r, sign low g b = a :: r ∧ a ≠ q := by
  unfold sign; repeat' split
  · exact ⟨_, _, rfl, h92.symm⟩
  · exact ⟨_, _, rfl, h92.symm⟩
  · exact ⟨_, _, rfl, h92.symm⟩
  · exact ⟨_, _, rfl, h92.symm⟩
  · rename_i h1 h2 h3 h4
    refine ⟨_, _, rfl, fun e => ?_⟩
    rw [e] at h3; exact h3 hq
theorem unl_back (q : UInt8) (low : Nat) (g g' : List UInt8) (hq : gd g q = true) (hq92 : q ≠ 92) (hsub : ∀ b, gd g b = true → gd g' b = true) (h92 : gd g 92 = true)
    (hn : gd g 110 = false ∧ gd g 116 = false ∧ gd g 120 = false) (l more : List UInt8) :
    ∀ text n, unl q g' (l.flatMap (sign low g) ++ q :: more) text n = some (text ++ l, n + (l.flatMap (sign low g)).length + 1) := by
  induction l with
  | nil => intro text n; simp [unl_end]
  | cons b l ih =>
    intro text n
    have hb := sign_back low g g' b (l.flatMap (sign low g) ++ q :: more) (hsub b) h92 hn
    obtain ⟨a, r, ha, hne⟩ := sign_head low g b q hq hq92
    have hpos := sign_ne low g b
    rw [List.flatMap_cons, List.append_assoc]
    have e : sign low g b ++ (l.flatMap (sign low g) ++ q :: more) = a :: (r ++ (l.flatMap (sign low g) ++ q :: more)) := by rw [ha]; rfl
    rw [e, unl_on q g' text a _ n hne (by rw [← e, hb]; show (sign low g b).length ≠ 0; omega), ← e, hb]
    show unl q g' (List.drop (sign low g b).length _) (text ++ [UInt8.ofNat b.toNat]) (n + (sign low g b).length) = _
    rw [List.drop_left, ih]
    simp
    omega
theorem gd_lit (b : UInt8) (h : gd [39, 92] b = true) : gd [39, 34, 92] b = true := by
  simp only [gd, Lib.indexByte] at h ⊢
  by_cases h1 : (39 : UInt8) == b
  · simp [h1]
  · by_cases h2 : (92 : UInt8) == b
    · by_cases h3 : (34 : UInt8) == b
      · simp [h1, h3]
      · simp [h1, h2, h3]
    · simp [h1, h2] at h
/-- A literal is read as it was, whatever stands behind. -/
theorem unlit_back (l more : List UInt8) : unlit [39, 34, 92] (lit l ++ more) = some (l, (lit l).length) := by
  show unl 39 [39, 34, 92] ((l.flatMap (sign 32 [39, 92]) ++ [39]) ++ more) [] 1 = _
  rw [List.append_assoc]
  have := unl_back 39 32 [39, 92] [39, 34, 92] (by decide) (by decide) gd_lit (by decide) ⟨by decide, by decide, by decide⟩ l more [] 1
  rw [show [39] ++ more = 39 :: more from rfl, this]
  simp [lit]
  omega
/-- All bytes of what is written can be seen. -/
theorem sign_vis (low : Nat) (g : List UInt8) (b : UInt8) (hlow : 32 ≤ low) (hg : gd g b = true → 32 ≤ b.toNat ∧ b.toNat ≤ 126) : ∀ c ∈ sign low g b, 32 ≤ c.toNat ∧ c.toNat ≤ 126 := by
  have hb := b.toNat_lt
  have h1 := hexc_vis (b.toNat / 16) (by omega)
  have h2 := hexc_vis (b.toNat % 16) (by omega)
  intro c hc
  unfold sign at hc
  split at hc
  · simp at hc; rcases hc with rfl | rfl <;> decide
  · split at hc
    · simp at hc; rcases hc with rfl | rfl <;> decide
    · split at hc
      · rename_i hgb
        simp at hc; rcases hc with rfl | rfl
        · decide
        · exact hg hgb
      · split at hc
        · simp at hc; rcases hc with rfl | rfl | rfl | rfl
          · decide
          · decide
          · omega
          · omega
        · simp at hc; subst hc; omega
theorem gd_lit_vis (b : UInt8) (h : gd [39, 92] b = true) : 32 ≤ b.toNat ∧ b.toNat ≤ 126 := by
  simp only [gd, Lib.indexByte] at h
  by_cases h1 : (39 : UInt8) == b
  · have := beq_iff_eq.1 h1; subst this; decide
  · by_cases h2 : (92 : UInt8) == b
    · have := beq_iff_eq.1 h2; subst this; decide
    · simp [h1, h2] at h
theorem lit_vis (l : List UInt8) : ∀ c ∈ lit l, 32 ≤ c.toNat ∧ c.toNat ≤ 126 := by
  intro c hc
  simp only [lit, List.mem_cons, List.mem_append, List.mem_flatMap, List.not_mem_nil, or_false] at hc
  rcases hc with rfl | ⟨b, _, hb⟩ | rfl
  · decide
  · exact sign_vis 32 _ b (by omega) (gd_lit_vis b) c hb
  · decide
theorem lit_len (l : List UInt8) : (lit l).length ≤ 4 * l.length + 2 := by
  have := flat_len 32 [39, 92] l
  simp only [lit, List.length_cons, List.length_append, List.length_nil]; omega
end Go.Proofs.YtbeohmcmphebhaaDoor
namespace Go.Proofs.YtbeohmcmphebhaaDoor
open Go.RowKit
theorem ownsRow_below {w w' : World} {base : Nat} {e : TypeId} {size : Nat} {v : Value} {n : Nat} {xs : List Value} (h : w.ownsRow base e size v n xs) (hb : Below w.heap.size w w') : w'.ownsRow base e size v n xs := by
  obtain ⟨h1, h2⟩ := h
  refine ⟨h1, ?_⟩
  rcases h2 with h2 | ⟨g, cap, cur, hv, hg, hh, r⟩
  · exact Or.inl h2
  · refine Or.inr ⟨g, cap, cur, hv, hg, ?_, r⟩
    have hlt : g < w.heap.size := by
      rcases Nat.lt_or_ge g w.heap.size with h1 | h1
      · exact h1
      · rw [Array.getElem?_eq_none h1] at hh; cases hh
    rw [hb.block g hlt]; exact hh
/-- A slice of bytes of the call's own, made into a text. -/
theorem conv_own {P : Program} {w : World} {base : Nat} {e src dst : TypeId} {v : Value} {n : Nat} {l : List UInt8} (hs : P.underlying src = some (.slice e)) (he : P.underlying e = some (.int .u8)) (hd : P.underlying dst = some .string)
    (h : w.ownsRow base e 1 v n (l.map fun b => Value.int .u8 (b.toNat : Int))) : (convert src dst v).run P w = .ok (.string ⟨l.toArray⟩) w := by
  obtain ⟨h1, h2⟩ := h
  simp only [List.length_map, Nat.mul_one] at h1
  rcases h2 with ⟨rfl, h2⟩ | ⟨g, cap, cur, rfl, hg, hh, hn, hm, hsz, hc⟩
  · rw [run_convert_bytes_nil w src e hs he 0 0 dst hd]
    have : l = [] := List.length_eq_zero_iff.1 (by omega)
    subst this; rfl
  · rw [← h1]
    apply run_convert_bytes_back w src dst e ⟨g, 0, none⟩ cap l hs he hd
    intro j hj
    simp only [Nat.mul_one] at hc hsz
    rw [Addr.add_lit, Nat.zero_add]
    simp only [World.cell?, hh]
    have e2 := congrArg (fun q => q[j]?) hc
    simp only [List.getElem?_map] at e2
    rw [List.getElem?_take_of_lt (by omega), List.getElem?_eq_getElem hj] at e2
    simpa using e2
/-- A list of bytes as cells. -/
def bcs (l : List UInt8) : List Value := l.map fun b => Value.int .u8 (b.toNat : Int)
theorem bcs_app (l m : List UInt8) : bcs (l ++ m) = bcs l ++ bcs m := by simp [bcs]
/-- A slice of bytes of the call's own that holds l. -/
def Holds (w : World) (base : Nat) (v : Value) (l : List UInt8) : Prop := w.ownsRow base 5 1 v l.length (bcs l)
theorem Holds.below {w w' : World} {base : Nat} {v : Value} {l : List UInt8} (h : Holds w base v l) (hb : Below w.heap.size w w') : Holds w' base v l := ownsRow_below h hb
theorem Holds.conv {w : World} {base : Nat} {v : Value} {l : List UInt8} (h : Holds w base v l) : (convert 49 9 v).run Tryd.prog w = .ok (.string ⟨l.toArray⟩) w :=
  conv_own Tryd.underlying49 Tryd.underlying5 Tryd.underlying9 h
theorem Tryd.info5 : (Tryd.prog.info? 5).map (fun i => (i.zero, i.size, i.bytes)) = some (some (.int .u8 0), 1, 1) := by kernel_rfl
/-- An earlier world, a later one, and that the row of v was alone turned. -/
theorem grown_trans {w w1 w2 : World} {row row' : Option Nat} (h : w.grownBy w1 row) (h2 : w1.grownBy w2 row') (hr : ∀ k, row' = some k → k < w.heap.size → row = some k) : w.grownBy w2 row :=
  ⟨h2.os.trans h.os, h2.tape.trans h.tape, h2.output.trans h.output, Nat.le_trans h.size h2.size, fun k hk hne => by
    rw [h2.block k (Nat.lt_of_lt_of_le hk h.size) (fun e => hne (by rw [hr k e.symm hk])), h.block k hk hne]⟩
theorem grown_alloc {w w2 : World} {row : Option Nat} (o : Obj) (h : (w.alloc o).grownBy w2 row) : w.grownBy w2 row :=
  ⟨h.os, h.tape, h.output, Nat.le_trans (by simp) h.size, fun k hk hne => by
    rw [h.block k (by simp; omega) hne]; exact Below.heap_alloc w o k hk⟩
theorem grown_drew {w w2 : World} {row : Option Nat} (h : w.drew.grownBy w2 row) : w.grownBy w2 row := ⟨h.os, h.tape, h.output, h.size, h.block⟩
end Go.Proofs.YtbeohmcmphebhaaDoor
