import Derived.Test.YtbeohmcmphebhaaDoorXQClassText
import Derived.Test.YtbeohmcmphebhaaDoorXQRef
import Derived.Test.YtbeohmcmphebhaaDoorXUOps
namespace Go.Proofs.YtbeohmcmphebhaaDoor
open Go.RowKit
set_option maxHeartbeats 1000000 in
theorem endOfRun_any (S : BitVec 256) (a : Nat) (w : World) (ha : a < 256) :
    Calls Tryd.prog 84 #[.agg #[.int .u64 (wd S 0), .int .u64 (wd S 1), .int .u64 (wd S 2), .int .u64 (wd S 3)], .int .i64 a] w fun e w' => e = .returned (.int .i64 (eor S a : Int)) ∧ Below w.heap.size w w' := by
  go_enter Tryd.func84, Tryd.ntmps84
  go_wp2_with fail
  go_loopw [5] (fun b wx => ∃ k : Nat, b = .int .i64 k ∧ k < 256 ∧ Hid (eor S k = eor S a) ∧ Below w.heap.size w wx ∧ Lies wx w.heap.size #[.int .u64 (wd S 0), .int .u64 (wd S 1), .int .u64 (wd S 2), .int .u64 (wd S 3)]) (fun b _ => 256 - (intOf b).toNat)
  case atStart => exact ⟨a, rfl, ha, rfl, (Below.refl _ _).alloc (Nat.le_refl _) _, Lies.new _ _⟩
  case round =>
    obtain ⟨k, rfl, hk, HS, hB, hL⟩ := hrel
    have hlt := hL.lt
    by_cases hh : k < 255
    · have hd : decide ((k : Int) < 255) = true := by simp; omega
      have hc := hL.cell
      have hk2 : (k : Int) + 1 ≤ 255 := by omega
      cases hi : inS S (k + 1)
      · have HI : Hid (inS S (k + 1) = false) := hi
        clear hi
        go_wp2_with fail
        rw [show ((k : Int) + 1) = ((k + 1 : Nat) : Int) from by omega]
        refine (has_any S (k + 1) _ (by omega)).mono ?_
        rintro e w1 ⟨rfl, hb⟩
        rw [HI.out]
        go_wp2_with fail
        go_ret
        exact ⟨ret_int (by rw [← HS.out, eor_no S k hh HI.out]), hB.trans (hb.mono (by omega))⟩
      · have HI : Hid (inS S (k + 1) = true) := hi
        clear hi
        go_wp2_with fail
        rw [show ((k : Int) + 1) = ((k + 1 : Nat) : Int) from by omega]
        refine (has_any S (k + 1) _ (by omega)).mono ?_
        rintro e w1 ⟨rfl, hb⟩
        rw [HI.out]
        go_wp2_with fail
        exact ⟨⟨k + 1, by go_num, by omega, by unfold Hid; rw [← eor_yes S k hh HI.out]; exact HS.out, hB.trans (hb.mono (by omega)), hL.below hb hlt⟩, by simp [intOf]; omega⟩
    · have hd : decide ((k : Int) < 255) = false := by simp; omega
      go_wp2_with fail
      go_ret
      exact ⟨ret_int (by rw [← HS.out, eor_end S k (by omega)]), hB⟩
set_option maxHeartbeats 1000000 in
theorem classSign_any (b : Nat) (hb : b < 256) (v : Value) (l : List UInt8) (base : Nat) (w : World) (hown : Holds w base v l) (hl : l.length ≤ 10000000) (hbase : base ≤ w.heap.size) :
    Calls Tryd.prog 95 #[v, .int .i64 (b : Int)] w fun e w' => ∃ v', e = .returned v' ∧ Holds w' base v' (l ++ csign b) ∧ Below base w w' := by
  have hb' : (b : Int) ≤ 255 := by omega
  go_enter Tryd.func95, Tryd.ntmps95
  go_wp2_with fail
  rw [show (b : Int) = ((UInt8.ofNat b).toNat : Int) from by simp; omega]
  refine (appendSign_any 33 ⟨#[91, 93, 45, 94, 92]⟩ (UInt8.ofNat b) _ l base _ hown (by omega) hbase).mono ?_
  rintro e w1 ⟨v', rfl, hown1, hgrow⟩
  have HO : Hid (Holds w1 base v' (l ++ csign b)) := hown1
  have hB := (Below.refl base w).grown hgrow hbase (fun q hq => (World.ownsRow.lt hown _ hq).1)
  clear hown1 hgrow hown
  go_wp2_with fail
  go_ret
  exact ⟨v', rfl, HO.out, hB⟩
theorem csign_len (k : Nat) : (csign k).length ≤ 4 := sign_len 33 cg _
theorem run_one (a b : Nat) (h : b = a) : run a b = csign a := by subst h; unfold run; rw [if_neg (by omega), if_neg (by omega)]; simp
theorem run_pair (a b : Nat) (h : b = a + 1) : run a b = csign a ++ csign b := by subst h; unfold run; rw [if_neg (by omega), if_pos (by omega)]; simp
theorem run_long (a b : Nat) (h : a + 1 < b) : run a b = (csign a ++ [45]) ++ csign b := by unfold run; rw [if_pos h, if_pos (by omega)]; simp
set_option maxHeartbeats 1000000 in
theorem appendRun_any (a b : Nat) (hab : a ≤ b) (hb : b < 256) (v : Value) (l : List UInt8) (base : Nat) (w : World) (hown : Holds w base v l) (hl : l.length ≤ 1000000) (hbase : base ≤ w.heap.size) :
    Calls Tryd.prog 85 #[v, .int .i64 (a : Int), .int .i64 (b : Int)] w fun e w' => ∃ v', e = .returned v' ∧ Holds w' base v' (l ++ run a b) ∧ Below base w w' := by
  obtain ⟨i0, hi, hz0, hz1, hz2⟩ := info_parts Tryd.info5
  have hla := csign_len a
  have hb' : (b : Int) ≤ 255 := by omega
  have ha' : (a : Int) ≤ 255 := by omega
  by_cases h1 : b = a
  · rw [run_one a b h1]
    have d1 : decide ((a : Int) + 1 < (b : Int)) = false := by simp; omega
    have d2 : decide (a < b) = false := by simp; omega
    clear h1
    go_enter Tryd.func85, Tryd.ntmps85
    go_wp2_with fail
    refine (classSign_any a (by omega) _ l base _ hown (by omega) hbase).mono ?_
    rintro e w1 ⟨v1, rfl, hown1, hB1⟩
    clear hown
    go_wp2_with fail
    go_ret
    exact ⟨v1, rfl, hown1, hB1⟩
  · by_cases h2 : b = a + 1
    · rw [run_pair a b h2, ← List.append_assoc]
      have d1 : decide ((a : Int) + 1 < (b : Int)) = false := by simp; omega
      have d2 : decide (a < b) = true := by simp; omega
      clear h1 h2
      go_enter Tryd.func85, Tryd.ntmps85
      go_wp2_with fail
      refine (classSign_any a (by omega) _ l base _ hown (by omega) hbase).mono ?_
      rintro e w1 ⟨v1, rfl, hown1, hB1⟩
      clear hown
      go_wp2_with fail
      refine (classSign_any b (by omega) _ (l ++ csign a) base _ hown1 (by rw [List.length_append]; omega) (Nat.le_trans hbase hB1.size)).mono ?_
      rintro e w2 ⟨v2, rfl, hown2, hB2⟩
      have hB := hB1.trans hB2
      clear hown1 hB1 hB2
      go_wp2_with fail
      go_ret
      exact ⟨v2, rfl, hown2, hB⟩
    · rw [run_long a b (by omega), ← List.append_assoc, ← List.append_assoc]
      have d1 : decide ((a : Int) + 1 < (b : Int)) = true := by simp; omega
      have d2 : decide (a < b) = true := by simp; omega
      clear h1 h2
      go_enter Tryd.func85, Tryd.ntmps85
      go_wp2_with fail
      refine (classSign_any a (by omega) _ l base _ hown (by omega) hbase).mono ?_
      rintro e w1 ⟨v1, rfl, hown1, hB1⟩
      have hsz := hB1.size
      have hlen1 : (l ++ csign a).length ≤ 1000004 := by rw [List.length_append]; omega
      clear hown
      generalize hl1 : l ++ csign a = l1 at *
      have HL1 : Hid (l ++ csign a = l1) := hl1
      clear hl1
      go_wp2_with (at_builtin; refine wpList_append_own _ rfl _ _ 49 rfl base 5 i0 (.int .u8 0) 1 1 Tryd.underlying49 hi hz0 hz1 hz2 rfl (by decide) _ _ _ rfl (hown1.alloc _) ⟨w1.heap.size, 0, none⟩ 1 1 [.int .u8 45] rfl rfl ?c1 ?c2 ?c3 ?c4 ?c5 ?_)
      case c1 =>
        intro j u hj
        match j, hj with
        | 0, hj => simp at hj; subst hj; simp [Addr.add]
      case c2 => intro u hu; simp at hu; subst hu; rfl
      case c3 => unfold maxLen; omega
      case c4 => omega
      case c5 => simp; omega
      intro v2 w2 hown2 hgrow _
      have hown3 : Holds w2 base v2 (l1 ++ [45]) := by unfold Holds; rw [bcs_app, List.length_append]; exact hown2
      have hB2 := (hB1.alloc (by omega) _).grown hgrow (by simp; omega) (fun q hq => (World.ownsRow.lt hown1 _ hq).1)
      clear hown1 hown2 hgrow hB1
      go_wp2_with fail
      refine (classSign_any b (by omega) _ (l1 ++ [45]) base _ hown3 (by rw [List.length_append]; simp; omega) (Nat.le_trans hbase hB2.size)).mono ?_
      rintro e w3 ⟨v3, rfl, hown4, hB3⟩
      have hB := hB2.trans hB3
      clear hown3 hB2 hB3
      go_wp2_with fail
      go_ret
      exact ⟨v3, rfl, by rw [HL1.out]; exact hown4, hB⟩
theorem fst_at (S : BitVec 256) (n a : Nat) (h : a + n = 256) : (fst S a = -1 ∧ ∀ i, a ≤ i → i < 256 → inS S i = false) ∨ ∃ k : Nat, fst S a = (k : Int) ∧ a ≤ k ∧ k < 256 ∧ inS S k = true ∧ ∀ i, a ≤ i → i < k → inS S i = false := by
  induction n generalizing a with
  | zero =>
    obtain rfl : a = 256 := by omega
    exact .inl ⟨fst_out S 256 (by omega), fun i h1 h2 => by omega⟩
  | succ n ih =>
    cases hi : inS S a
    · rw [fst_no S a (by omega) hi]
      rcases ih (a + 1) (by omega) with ⟨h1, h2⟩ | ⟨k, h1, h2, h3, h4, h5⟩
      · refine .inl ⟨h1, fun i g1 g2 => ?_⟩
        by_cases e : i = a
        · rw [e]; exact hi
        · exact h2 i (by omega) g2
      · refine .inr ⟨k, h1, by omega, h3, h4, fun i g1 g2 => ?_⟩
        by_cases e : i = a
        · rw [e]; exact hi
        · exact h5 i (by omega) g2
    · exact .inr ⟨a, fst_yes S a (by omega) hi, Nat.le_refl _, by omega, hi, fun i h1 h2 => by omega⟩
/-- Where the next run begins. -/
theorem next_run (S : BitVec 256) (a : Nat) (ha : a ≤ 256) (hp : a = 0 ∨ a = 256 ∨ inS S a = false) : (fst S a = -1 ∧ clsTo S a = clsTo S 256) ∨
    ∃ k : Nat, fst S a = (k : Int) ∧ a ≤ k ∧ k < 256 ∧ clsTo S (eor S k + 1) = clsTo S a ++ run k (eor S k) ∧ k ≤ eor S k ∧ eor S k ≤ 255 ∧ (eor S k + 1 = 256 ∨ inS S (eor S k + 1) = false) := by
  rcases fst_at S (256 - a) a (by omega) with ⟨h1, h2⟩ | ⟨k, h1, h2, h3, h4, h5⟩
  · refine .inl ⟨h1, ?_⟩
    have := clsTo_same S a (256 - a) (fun i g1 g2 => start_out S i (h2 i g1 (by omega)))
    rw [show a + (256 - a) = 256 from by omega] at this
    exact this.symm
  · obtain ⟨e1, e2, e3, e4⟩ := eor_le S k h3
    have hs : start S k = true := by
      unfold start
      rw [h4, Bool.true_and]
      by_cases e : k = 0
      · simp [e]
      · rcases Nat.lt_or_ge a k with g | g
        · rw [h5 (k - 1) (by omega) (by omega)]; simp
        · obtain rfl : a = k := by omega
          rcases hp with hp | hp | hp
          · exact absurd hp e
          · omega
          · rw [h4] at hp; cases hp
    have hc : clsTo S k = clsTo S a := by
      have := clsTo_same S a (k - a) (fun i g1 g2 => start_out S i (h5 i g1 (by omega)))
      rwa [show a + (k - a) = k from by omega] at this
    refine .inr ⟨k, h1, h2, h3, by rw [clsTo_run S k h3 h4 hs, hc], e1, e2, ?_⟩
    rcases e4 with e4 | e4
    · left; omega
    · right; exact e4
theorem fst_less (S : BitVec 256) (k : Nat) (hk : k < 256) (a : Nat) (ha : a ≤ 256) (hlt : k < a) : (257 - if fst S (a : Int) < 0 then 257 else fst S (a : Int)).toNat < (257 - if (k : Int) < 0 then 257 else (k : Int)).toNat := by
  rw [if_neg (show ¬ (k : Int) < 0 from by omega)]
  rcases fst_at S (256 - a) a (by omega) with ⟨h1, _⟩ | ⟨q, h1, h2, h3, _⟩
  · rw [h1]; simp; omega
  · rw [h1, if_neg (by omega)]; omega
theorem Lies.grown {w w' : World} {N : Nat} {A : Array Value} {row : Option Nat} (h : Lies w N A) (hg : w.grownBy w' row) (hr : some N ≠ row) : Lies w' N A := by
  have := h.lt
  unfold Lies at h ⊢
  rw [hg.block N this hr]; exact h
set_option maxHeartbeats 1000000 in
theorem class_any (S : BitVec 256) (w : World) :
    Calls Tryd.prog 66 #[.agg #[.int .u64 (wd S 0), .int .u64 (wd S 1), .int .u64 (wd S 2), .int .u64 (wd S 3)]] w fun e w' => e = .returned (.string ⟨(cls S).toArray⟩) ∧ Below w.heap.size w w' := by
  obtain ⟨i0, hi, hz0, hz1, hz2⟩ := info_parts Tryd.info5
  go_enter Tryd.func66, Tryd.ntmps66
  go_wp2_with fail
  refine (first_any S 0 _).mono ?_
  rintro e w1 ⟨rfl, hb⟩
  have hL0 := ((Lies.new w #[.int .u64 (wd S 0), .int .u64 (wd S 1), .int .u64 (wd S 2), .int .u64 (wd S 3)]).alloc (.cells #[.int .u8 91] 5)).below hb (by simp; omega)
  have hO0 : Holds w1 (w.heap.size + 1) (.slice (some ⟨w.heap.size + 1, 0, none⟩) 1 1) [91] := by
    have := World.ownsRow_lit (base := w.heap.size + 1) (e := 5) (size := 1) (w.alloc (.cells #[.int .u64 (wd S 0), .int .u64 (wd S 1), .int .u64 (wd S 2), .int .u64 (wd S 3)] 24)) #[.int .u8 91] 1 (by simp) (by unfold maxLen; omega) rfl
    have h2 := ownsRow_below this hb
    have h3 : w1.ownsRow (w.heap.size + 1) 5 1 (.slice (some ⟨w.heap.size + 1, 0, none⟩) 1 1) 1 [.int .u8 91] := by simpa using h2
    exact h3
  have hB0 : Below w.heap.size w w1 := ((((Below.refl w.heap.size w).alloc (Nat.le_refl _) _).alloc (by simp) _).trans (hb.mono (by simp; omega)))
  clear hb
  go_wp2_with fail
  go_loopw [3, 4, 5] (fun v b _ wx => ∃ a : Nat, b = .int .i64 (fst S a) ∧ a ≤ 256 ∧ (a = 0 ∨ a = 256 ∨ inS S a = false) ∧ Holds wx (w.heap.size + 1) v (91 :: clsTo S a) ∧ Below w.heap.size w wx ∧ Lies wx w.heap.size #[.int .u64 (wd S 0), .int .u64 (wd S 1), .int .u64 (wd S 2), .int .u64 (wd S 3)]) (fun _ b _ _ => (257 - (if intOf b < 0 then 257 else intOf b)).toNat)
  case atStart => exact ⟨0, rfl, by omega, .inl rfl, hO0, hB0, hL0⟩
  case round =>
    clear hB0 hL0 hO0
    obtain ⟨a, rfl, ha, hp, hown, hB, hL⟩ := hrel
    have hlt := hL.lt
    have hlen := clsTo_len S a
    rcases next_run S a ha hp with ⟨h1, h2⟩ | ⟨k, h1, h2, h3, h4, h5, h6, h7⟩
    · rw [h1]
      rw [h2] at hown
      have hl2 := clsTo_len S 256
      clear h1 h2 hp hlen
      have HC : Hid ((91 :: clsTo S 256) ++ [93] = cls S) := rfl
      have hlen : (91 :: clsTo S 256).length ≤ 2305 := by rw [List.length_cons]; omega
      generalize 91 :: clsTo S 256 = L at *
      go_wp2_with (at_builtin; refine wpList_append_own _ rfl _ _ 49 rfl (w.heap.size + 1) 5 i0 (.int .u8 0) 1 1 Tryd.underlying49 hi hz0 hz1 hz2 rfl (by decide) _ _ _ rfl (hown.alloc _) ⟨wr.heap.size, 0, none⟩ 1 1 [.int .u8 93] rfl rfl ?c1 ?c2 ?c3 ?c4 ?c5 ?_)
      case c1 =>
        intro j u hj
        match j, hj with
        | 0, hj => simp at hj; subst hj; simp [Addr.add]
      case c2 => intro u hu; simp at hu; subst hu; rfl
      case c3 => unfold maxLen; omega
      case c4 => omega
      case c5 => simp; omega
      intro v' w2 hown2 hgrow _
      have hown3 : Holds w2 (w.heap.size + 1) v' (L ++ [93]) := by unfold Holds; rw [bcs_app, List.length_append]; exact hown2
      have hB2 := (hB.alloc hB.size _).grown hgrow (by simp; omega) (fun q hq => by have := (World.ownsRow.lt hown _ hq).1; omega)
      rw [HC.out] at hown3
      have hconv := hown3.conv
      clear hown hown2 hgrow hB hown3
      go_wp2_with fail
      go_ret
      exact ⟨rfl, hB2⟩
    · rw [h1]
      have HC : Hid (clsTo S (eor S k + 1) = clsTo S a ++ run k (eor S k)) := h4
      have HP : Hid (eor S k + 1 = 256 ∨ inS S (eor S k + 1) = false) := h7
      have hm := fst_less S k h3 (eor S k + 1) (by omega) (by omega)
      have HM : Hid ((257 - if fst S ((eor S k + 1 : Nat) : Int) < 0 then 257 else fst S ((eor S k + 1 : Nat) : Int)).toNat < (257 - if (k : Int) < 0 then 257 else (k : Int)).toNat) := hm
      have hlen1 : (91 :: clsTo S a).length ≤ 2305 := by rw [List.length_cons]; omega
      clear h1 h4 h7 hp hm hlen
      have hc := hL.cell
      go_wp2_with fail
      refine (endOfRun_any S k _ h3).mono ?_
      rintro e w2 ⟨rfl, hb2⟩
      have hown2 := hown.below hb2
      have hL2 := hL.below hb2 hlt
      have hB2 := b_call hB hb2
      have hlt2 := hL2.lt
      clear hown hL hB hb2 hc
      generalize hLL : 91 :: clsTo S a = L at *
      have HLL : Hid (91 :: clsTo S a = L) := hLL
      clear hLL
      go_wp2_with fail
      refine (appendRun_any k (eor S k) h5 (by omega) _ L (w.heap.size + 1) _ hown2 (by omega) (by omega)).mono ?_
      rintro e w3 ⟨v3, rfl, hown3, hb3⟩
      have hL3 := hL2.below hb3 (by omega)
      have hB3 := hB2.trans (hb3.mono (by omega))
      have hc3 := hL3.cell
      have hlt3 := hL3.lt
      clear hown2 hL2 hB2 hb3
      have HO : Hid (Holds w3 (w.heap.size + 1) v3 (L ++ run k (eor S k))) := hown3
      clear hown3
      generalize eor S k = q at *
      go_wp2_with fail
      rw [show ((q : Int) + 1) = ((q + 1 : Nat) : Int) from by omega]
      refine (first_any S _ _).mono ?_
      rintro e w4 ⟨rfl, hb4⟩
      have hO4 := HO.out.below hb4
      have HO4 : Hid (Holds w4 (w.heap.size + 1) v3 (L ++ run k q)) := hO4
      have hL4 := hL3.below hb4 hlt3
      have hB4 := b_call hB3 hb4
      clear hO4 HO hL3 hB3 hb4 hc3
      go_wp2_with fail
      have HM2 := HM.out
      rw [show ((q + 1 : Nat) : Int) = (q : Int) + 1 from by omega] at HM2
      exact ⟨⟨q + 1, by rw [show ((q + 1 : Nat) : Int) = (q : Int) + 1 from by omega], by omega, .inr HP.out, by rw [HC.out, ← List.cons_append, HLL.out]; exact HO4.out, hB4, hL4⟩, HM2⟩
end Go.Proofs.YtbeohmcmphebhaaDoor
