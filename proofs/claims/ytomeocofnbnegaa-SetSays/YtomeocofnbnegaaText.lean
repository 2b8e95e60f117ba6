import Derived.Test.YtomeocofnbnegaaCount
import Derived.WalkKit
import Derived.WalkSpells
import Derived.WalkLawsBesides
import Derived.Laws.IdiomStrings
import Derived.Laws.BytesArg
namespace Go.Proofs.Ytomeocofnbnegaa
open Go.RowKit
theorem ownsRow_below {w w' : World} {base : Nat} {e : TypeId} {size : Nat} {v : Value} {n : Nat} {xs : List Value} (h : w.ownsRow base e size v n xs) (hb : Below w.heap.size w w') : w'.ownsRow base e size v n xs := by
  obtain ⟨h1, h2⟩ := h
  refine ⟨h1, ?_⟩
  rcases h2 with h2 | ⟨g, cap, cur, hv, hg, hh, r⟩
  · exact Or.inl h2
  · refine Or.inr ⟨g, cap, cur, hv, hg, ?_, r⟩
    have hlt : g < w.heap.size := by
      rcases Nat.lt_or_ge g w.heap.size with h1 | h1
      · exact h1
      · rw [Array.getElem?_eq_none h1] at hh; cases hh
    rw [hb.block g hlt]; exact hh
/-- A slice of bytes of the call's own, made into a text. -/
theorem conv_own {P : Program} {w : World} {base : Nat} {e src dst : TypeId} {v : Value} {n : Nat} {l : List UInt8} (hs : P.underlying src = some (.slice e)) (he : P.underlying e = some (.int .u8)) (hd : P.underlying dst = some .string)
    (h : w.ownsRow base e 1 v n (l.map fun b => Value.int .u8 (b.toNat : Int))) : (convert src dst v).run P w = .ok (.string ⟨l.toArray⟩) w := by
  obtain ⟨h1, h2⟩ := h
  simp only [List.length_map, Nat.mul_one] at h1
  rcases h2 with ⟨rfl, h2⟩ | ⟨g, cap, cur, rfl, hg, hh, hn, hm, hsz, hc⟩
  · rw [run_convert_bytes_nil w src e hs he 0 0 dst hd]
    have : l = [] := List.length_eq_zero_iff.1 (by omega)
    subst this; rfl
  · rw [← h1]
    apply run_convert_bytes_back w src dst e ⟨g, 0, none⟩ cap l hs he hd
    intro j hj
    simp only [Nat.mul_one] at hc hsz
    rw [Addr.add_lit, Nat.zero_add]
    simp only [World.cell?, hh]
    have e2 := congrArg (fun q => q[j]?) hc
    simp only [List.getElem?_map] at e2
    rw [List.getElem?_take_of_lt (by omega), List.getElem?_eq_getElem hj] at e2
    simpa using e2
theorem Lies.grown {w w' : World} {N : Nat} {A : Array Value} {row : Option Nat} (h : Lies w N A) (hg : w.grownBy w' row) (hr : some N ≠ row) : Lies w' N A := by
  have := h.lt
  unfold Lies at h ⊢
  rw [hg.block N this hr]; exact h
/-- The bytes below n that are in S, rising. -/
def bl (S : BitVec 256) : Nat → List UInt8
  | 0 => []
  | n + 1 => bl S n ++ (if inS S n then [UInt8.ofNat n] else [])
theorem cf_succ (S : BitVec 256) (n : Nat) : cf S 0 (n + 1) = cf S 0 n + (if inS S n then 1 else 0) := by
  rw [cf_add S 0 n 1]; simp [cf]
theorem bl_length (S : BitVec 256) (n : Nat) : (bl S n).length = cf S 0 n := by
  induction n with
  | zero => rfl
  | succ n ih => rw [bl, cf_succ, List.length_append, ih]; split <;> simp
theorem cf_le (S : BitVec 256) (a n : Nat) : cf S a n ≤ n := by
  induction n generalizing a with
  | zero => simp [cf]
  | succ n ih => have := ih (a + 1); rw [cf]; split <;> omega
theorem bl_le (S : BitVec 256) (n : Nat) : (bl S n).length ≤ n := by rw [bl_length]; exact cf_le S 0 n
/-- A list of bytes as cells. -/
def bcs (l : List UInt8) : List Value := l.map fun b => Value.int .u8 (b.toNat : Int)
theorem bcs_snoc (S : BitVec 256) (k : Nat) (hk : k < 256) (h : inS S k = true) : bcs (bl S k) ++ [.int .u8 (k : Int)] = bcs (bl S (k + 1)) := by
  rw [bl, if_pos h]
  simp [bcs]
  omega
theorem bl_same (S : BitVec 256) (k : Nat) (h : inS S k = false) : bl S (k + 1) = bl S k := by
  rw [bl, if_neg (by simp [h])]; simp
theorem Try.info5 : (Try.prog.info? 5).map (fun i => (i.zero, i.size, i.bytes)) = some (some (.int .u8 0), 1, 1) := by kernel_rfl

set_option maxHeartbeats 1000000 in
theorem rbytes_any (S : BitVec 256) (w : World) :
    Calls Try.prog 13 #[.agg #[.int .u64 (wd S 0), .int .u64 (wd S 1), .int .u64 (wd S 2), .int .u64 (wd S 3)]] w fun e w' => e = .returned (.string ⟨(bl S 256).toArray⟩) ∧ Below w.heap.size w w' := by
  obtain ⟨i0, hi, hz0, hz1, hz2⟩ := info_parts Try.info5
  go_enter Try.func13, Try.ntmps13
  go_wp2_with fail
  go_loopw [3, 4, 5] (fun v _ i wx => ∃ k : Nat, i = .int .i64 k ∧ k ≤ 256 ∧ wx.ownsRow (w.heap.size + 1) 5 1 v (bl S k).length (bcs (bl S k)) ∧ Below w.heap.size w wx ∧ Lies wx w.heap.size #[.int .u64 (wd S 0), .int .u64 (wd S 1), .int .u64 (wd S 2), .int .u64 (wd S 3)]) (fun _ _ i _ => 256 - (intOf i).toNat)
  case atStart => exact ⟨0, rfl, by omega, World.ownsRow_nil _ _ _ _, (Below.refl _ _).alloc (Nat.le_refl _) _, Lies.new _ _⟩
  case round =>
    obtain ⟨k, rfl, hk, hown, hB, hL⟩ := hrel
    by_cases hh : (k : Int) < 256
    · have hc := hL.cell
      have hlt := hL.lt
      cases hi' : inS S k
      · have HI : Hid (inS S k = false) := hi'
        clear hi'
        go_wp2_with fail
        refine (rhas_any S k _ (by omega)).mono ?_
        rintro e w1 ⟨rfl, hb⟩
        rw [HI.out]
        have hown1 := ownsRow_below hown hb
        go_wp2_with fail
        exact ⟨⟨k + 1, by go_num, by omega, by rw [bl_same S k HI.out]; exact hown1, hB.trans (hb.mono (by omega)), hL.below hb hlt⟩, by simp [intOf]; omega⟩
      · have HI : Hid (inS S k = true) := hi'
        clear hi'
        go_wp2_with fail
        refine (rhas_any S k _ (by omega)).mono ?_
        rintro e w1 ⟨rfl, hb⟩
        rw [HI.out]
        have hown1 := ownsRow_below hown hb
        have hB1 := hB.trans (hb.mono (by omega))
        have hL1 := hL.below hb hlt
        have hlt1 := hL1.lt
        have hle := bl_le S k
        clear hown hB hL hb
        go_wp2_with (at_builtin; refine wpList_append_own _ rfl _ _ 40 rfl (w.heap.size + 1) 5 i0 (.int .u8 0) 1 1 Try.underlying40 hi hz0 hz1 hz2 rfl (by decide) _ _ _ rfl (hown1.alloc _) ⟨w1.heap.size, 0, none⟩ 1 1 [.int .u8 (k : Int)] rfl rfl ?c1 ?c2 ?c3 ?c4 ?c5 ?_)
        case c1 =>
          intro j u hj
          match j, hj with
          | 0, hj => simp at hj; subst hj; simp [Addr.add]
        case c2 => intro u hu; simp at hu; subst hu; rfl
        case c3 => unfold maxLen; omega
        case c4 => omega
        case c5 => simp; omega
        intro v' w2 hown2 hgrow _
        rw [bcs_snoc S k (by omega) HI.out, show (bl S k).length + 1 = (bl S (k + 1)).length from by rw [bl, if_pos HI.out]; simp] at hown2
        have hr : some w.heap.size ≠ u3.ownBlock := fun h => by have := (hown1.lt _ h.symm).1; omega
        have hL2 := (hL1.alloc _).grown hgrow hr
        have hB2 := (hB1.alloc (Nat.le_of_lt hlt1) _).grown hgrow (by simp; omega) (fun q hq => by have := (hown1.lt _ hq).1; omega)
        clear hown1 hgrow hB1 hL1
        go_wp2_with fail
        exact ⟨⟨k + 1, by go_num, by omega, hown2, hB2, hL2⟩, by simp [intOf]; omega⟩
    · have hk2 : k = 256 := by omega
      have hconv := conv_own (P := Try.prog) Try.underlying40 Try.underlying5 Try.underlying9 hown
      subst hk2
      go_wp2_with fail
      go_ret
      exact ⟨rfl, hB⟩
theorem fst_cases_at (S : BitVec 256) (n a : Nat) (h : a + n = 256) : (fst S a = -1 ∧ cf S 0 a = cf S 0 256 ∧ bl S a = bl S 256) ∨ ∃ k : Nat, fst S a = (k : Int) ∧ a ≤ k ∧ k < 256 ∧ inS S k = true ∧ cf S 0 k = cf S 0 a ∧ bl S k = bl S a := by
  induction n generalizing a with
  | zero =>
    obtain rfl : a = 256 := by omega
    exact .inl ⟨fst_out S 256 (by omega), rfl, rfl⟩
  | succ n ih =>
    cases hi : inS S a
    · have e1 : cf S 0 (a + 1) = cf S 0 a := by rw [cf_succ, hi]; simp
      have e2 := bl_same S a hi
      rw [fst_no S a (by omega) hi]
      rcases ih (a + 1) (by omega) with ⟨h1, h2, h3⟩ | ⟨k, h1, h2, h3, h4, h5, h6⟩
      · exact .inl ⟨h1, by rw [← e1]; exact h2, by rw [← e2]; exact h3⟩
      · exact .inr ⟨k, h1, by omega, h3, h4, by rw [h5, e1], by rw [h6, e2]⟩
    · exact .inr ⟨a, fst_yes S a (by omega) hi, Nat.le_refl _, by omega, hi, rfl, rfl⟩
theorem fst_cases (S : BitVec 256) (a : Nat) (ha : a ≤ 256) : (fst S a = -1 ∧ cf S 0 a = cf S 0 256 ∧ bl S a = bl S 256) ∨ ∃ k : Nat, fst S a = (k : Int) ∧ a ≤ k ∧ k < 256 ∧ inS S k = true ∧ cf S 0 k = cf S 0 a ∧ bl S k = bl S a :=
  fst_cases_at S (256 - a) a (by omega)
theorem fst_less (S : BitVec 256) (k : Nat) (hk : k < 256) : (257 - if fst S ((k : Int) + 1) < 0 then 257 else fst S ((k : Int) + 1)).toNat < (257 - if (k : Int) < 0 then 257 else (k : Int)).toNat := by
  have e : ((k : Int) + 1) = ((k + 1 : Nat) : Int) := by omega
  rw [e, if_neg (show ¬ (k : Int) < 0 from by omega)]
  rcases fst_cases S (k + 1) (by omega) with ⟨h1, _⟩ | ⟨q, h1, h2, h3, _⟩
  · rw [h1]; simp; omega
  · rw [h1, if_neg (by omega)]; omega
set_option maxHeartbeats 1000000 in
theorem bytes_any (S : BitVec 256) (w : World) :
    Calls Try.prog 15 #[.agg #[.int .u64 (wd S 0), .int .u64 (wd S 1), .int .u64 (wd S 2), .int .u64 (wd S 3)]] w fun e w' => e = .returned (.string ⟨(bl S 256).toArray⟩) ∧ Below w.heap.size w w' := by
  obtain ⟨i0, hi, hz0, hz1, hz2⟩ := info_parts Try.info5
  go_enter Try.func15, Try.ntmps15
  go_wp2_with fail
  refine (first_any S 0 _).mono ?_
  rintro e w1 ⟨rfl, hb⟩
  have hL0 := (Lies.new w #[.int .u64 (wd S 0), .int .u64 (wd S 1), .int .u64 (wd S 2), .int .u64 (wd S 3)]).below hb (by simp)
  have hB0 := ((Below.refl w.heap.size w).alloc (Nat.le_refl _) (.cells #[.int .u64 (wd S 0), .int .u64 (wd S 1), .int .u64 (wd S 2), .int .u64 (wd S 3)] 24)).trans (hb.mono (by simp))
  clear hb
  go_wp2_with fail
  go_loopw [3, 4] (fun v b wx => ∃ a : Nat, b = .int .i64 (fst S a) ∧ a ≤ 256 ∧ wx.ownsRow (w.heap.size + 1) 5 1 v (bl S a).length (bcs (bl S a)) ∧ Below w.heap.size w wx ∧ Lies wx w.heap.size #[.int .u64 (wd S 0), .int .u64 (wd S 1), .int .u64 (wd S 2), .int .u64 (wd S 3)]) (fun _ b _ => (257 - (if intOf b < 0 then 257 else intOf b)).toNat)
  case atStart => exact ⟨0, rfl, by omega, World.ownsRow_nil _ _ _ _, hB0, hL0⟩
  case round =>
    clear hB0 hL0
    obtain ⟨a, rfl, ha, hown, hB, hL⟩ := hrel
    have hlt := hL.lt
    have hc := hL.cell
    rcases fst_cases S a ha with ⟨h1, h2, h3⟩ | ⟨k, h1, h2, h3, h4, h5, h6⟩
    · rw [h1]
      rw [h3] at hown
      clear h1 h2 h3
      have hconv := conv_own (P := Try.prog) Try.underlying40 Try.underlying5 Try.underlying9 hown
      go_wp2_with fail
      go_ret
      exact ⟨rfl, hB⟩
    · rw [h1]
      rw [← h6] at hown
      have H4 : Hid (inS S k = true) := h4
      have hle := bl_le S k
      clear h1 h5 h6 h4
      go_wp2_with (at_builtin; refine wpList_append_own _ rfl _ _ 40 rfl (w.heap.size + 1) 5 i0 (.int .u8 0) 1 1 Try.underlying40 hi hz0 hz1 hz2 rfl (by decide) _ _ _ rfl (hown.alloc _) ⟨wr.heap.size, 0, none⟩ 1 1 [.int .u8 (k : Int)] rfl rfl ?c1 ?c2 ?c3 ?c4 ?c5 ?_)
      case c1 =>
        intro j u hj
        match j, hj with
        | 0, hj => simp at hj; subst hj; simp [Addr.add]
      case c2 => intro u hu; simp at hu; subst hu; rfl
      case c3 => unfold maxLen; omega
      case c4 => omega
      case c5 => simp; omega
      intro v' w2 hown2 hgrow _
      rw [bcs_snoc S k (by omega) H4.out, show (bl S k).length + 1 = (bl S (k + 1)).length from by rw [bl, if_pos H4.out]; simp] at hown2
      have hr : some w.heap.size ≠ u3.ownBlock := fun h => by have := (hown.lt _ h.symm).1; omega
      have hL2 := (hL.alloc _).grown hgrow hr
      have hB2 := (hB.alloc (Nat.le_of_lt hlt) _).grown hgrow (by simp; omega) (fun q hq => by have := (hown.lt _ hq).1; omega)
      have hc2 := hL2.cell
      have hlt2 := hL2.lt
      clear hown hgrow hB hL hc
      go_wp2_with fail
      refine (first_any S ((k : Int) + 1) _).mono ?_
      rintro e w3 ⟨rfl, hb3⟩
      have hown3 := ownsRow_below hown2 hb3
      go_wp2_with fail
      exact ⟨⟨k + 1, by go_num, by omega, hown3, hB2.trans (hb3.mono (by omega)), hL2.below hb3 hlt2⟩, fst_less S k h3⟩
end Go.Proofs.Ytomeocofnbnegaa
