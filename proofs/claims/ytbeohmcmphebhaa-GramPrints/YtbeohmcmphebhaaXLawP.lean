import Derived.Test.YtbeohmcmphebhaaXGPr
import Derived.Deep.RegionHeld3
namespace Go.Proofs.Ytbeohmcmphebhaa
open Go.RowKit
set_option linter.unusedVariables false
def KeepR (w : World) (N : Nat) (x : ByteArray × Ex) (w' : World) : Prop := Below w.heap.size w w' ∧ BoxN w' N 48 (rcell x).toArray ∧ w'.cell? ⟨N, 0, none⟩ = some (.string x.1) ∧ w'.cell? ⟨N, 1, none⟩ = some (.int .i64 x.2.k)
    ∧ w'.cell? ⟨N, 2, none⟩ = some (.int .u64 (wd x.2.S 0)) ∧ w'.cell? ⟨N, 3, none⟩ = some (.int .u64 (wd x.2.S 1)) ∧ w'.cell? ⟨N, 4, none⟩ = some (.int .u64 (wd x.2.S 2)) ∧ w'.cell? ⟨N, 5, none⟩ = some (.int .u64 (wd x.2.S 3)) ∧ w'.cell? ⟨N, 6, none⟩ = some (.string x.2.t) ∧ w'.cell? ⟨N, 7, none⟩ = some (.slice x.2.a x.2.kids.length x.2.c)
theorem keepR_of {w w' : World} {N : Nat} {x : ByteArray × Ex} (hB : Below w.heap.size w w') (hE : BoxN w' N 48 (rcell x).toArray) : KeepR w N x w' := ⟨hB, hE, hE.cell 0, hE.cell 1, hE.cell 2, hE.cell 3, hE.cell 4, hE.cell 5, hE.cell 6, hE.cell 7⟩
theorem keepR_call {w W w' : World} {N : Nat} {x : ByteArray × Ex} (h : KeepR w N x W) (hb : Below W.heap.size W w') : KeepR w N x w' := keepR_of (h.1.trans (hb.mono h.1.size)) (h.2.1.below hb h.2.1.lt)
theorem keepR_drew {w w' : World} {N : Nat} {x : ByteArray × Ex} (h : KeepR w N x w') : KeepR w N x w'.drew := keepR_of h.1.drew h.2.1
theorem data_app (a b : ByteArray) : (a ++ b).data.toList = a.data.toList ++ b.data.toList := by simp
set_option maxRecDepth 20000 in
set_option maxHeartbeats 8000000 in
theorem rtext_any (g : Gr) (hok : GOk g.rules) (w : World) (hin : g.In w.heap.size w) :
    Calls Try.prog 17 #[g.val] w fun r W' => r = .returned (.string ⟨(gpr g.rules).toArray⟩) ∧ Below w.heap.size w W' := by
  have hA := (Below.refl w.heap.size w).alloc (Nat.le_refl _) (.cells #[.slice g.a g.rules.length g.c] 24)
  have HI : Hid (g.In w.heap.size w) := hin
  have HO : Hid (GOk g.rules) := hok
  have h10 := HO.out.most
  have HF : Hid (g.rules.take g.rules.length = g.rules) := List.take_length
  rw [gval_eq]
  clear hin hok
  go_enter Try.func17, Try.ntmps17
  go_wp2_with fail
  go_loopw [3, 9] (fun p q wr => ∃ (i : Nat) (s : ByteArray), p = .string s ∧ q = .int .i64 i ∧ i ≤ g.rules.length ∧ Hid (s.data.toList = gpr (g.rules.take i)) ∧ Hid (Below w.heap.size w wr)) (fun _ q _ => g.rules.length - (intOf q).toNat)
  case atStart => exact ⟨0, ⟨#[]⟩, rfl, rfl, Nat.zero_le _, rfl, hA⟩
  case round =>
    clear hA
    obtain ⟨i, s, rfl, rfl, hil, HS, HB⟩ := hrel
    by_cases hend : i = g.rules.length
    · have hs : Hid (s = ⟨(gpr g.rules).toArray⟩) := by
        have := HS.out
        rw [hend, HF.out] at this
        cases s with
        | mk d => unfold Hid; simp at this; rw [← this]
      have g1 : decide (i < g.rules.length) = false := by simp; omega
      clear hend
      go_wp2_with fail
      go_ret
      exact ⟨by rw [hs.out]; rfl, HB.out⟩
    · have hlt : i < g.rules.length := by omega
      clear hend
      obtain ⟨x, hx⟩ : ∃ x, g.rules[i]? = some x := ⟨_, List.getElem?_eq_getElem hlt⟩
      have hru := (HI.out.below HB.out).rule i x hx
      obtain ⟨b, o, ha, hb, c0, c1, c2, c3, c4, c5, c6, c7⟩ := rcells hru
      have hll := line_le (HO.out.rules i x hx)
      have hgl := gpr_le HO.out i hil
      have hx0 := (ruleChk_zero (HO.out.rules i x hx)).2.2
      have hA1 := HB.out.alloc HB.out.size (.cells (rcell x).toArray 48)
      have hK : KeepR w wr.heap.size x (wr.alloc (.cells (rcell x).toArray 48)) := keepR_of hA1 (BoxN.new wr 48 _)
      have hrp : ∀ W, KeepR w wr.heap.size x W → _ := fun W h => rprint_any x.2.size x.2 (Nat.le_refl _) ((check_zero x.2).1 hx0).1 (okA_check x.2 hx0) W ((((HI.out.below h.1).rule i x hx).body).mono h.1.size)
      have hss : s.size ≤ 1801000 := by rw [← bsz, HS.out]; omega
      have HT : Hid (∀ T : ByteArray, T = s ++ (x.1 ++ ⟨#[32, 60, 45, 32]⟩ ++ tba x.2.pr ++ ⟨#[10]⟩) → T.data.toList = gpr (g.rules.take (i + 1))) := fun T hT => by
        rw [hT, gpr_take _ _ _ hx, data_app, HS.out, data_app]; rfl
      have hts : (tba x.2.pr).size ≤ 180000 := by show x.2.pr.toArray.size ≤ _; simpa using hll.2.1
      have hx8 := hll.1
      rw [val_eq] at hrp
      generalize tba x.2.pr = P at *
      have a1 : ¬ 9223372036854775807 < x.1.size + 4 := by omega
      have a2 : ¬ 9223372036854775807 < x.1.size + 4 + P.size := by omega
      have a3 : ¬ 9223372036854775807 < x.1.size + 4 + P.size + 1 := by omega
      have a4 : ¬ 9223372036854775807 < s.size + (x.1.size + 4 + P.size + 1) := by omega
      have z4 : (x.1 ++ ⟨#[32, 60, 45, 32]⟩ : ByteArray).size = x.1.size + 4 := by rw [ByteArray.size_append]; rfl
      have z5 : (x.1 ++ ⟨#[32, 60, 45, 32]⟩ ++ P : ByteArray).size = x.1.size + 4 + P.size := by rw [ByteArray.size_append, z4]
      have z6 : (x.1 ++ ⟨#[32, 60, 45, 32]⟩ ++ P ++ ⟨#[10]⟩ : ByteArray).size = x.1.size + 4 + P.size + 1 := by rw [ByteArray.size_append, z5]; rfl
      rw [ha]
      clear hx hru hb hA1 hx0 hll hgl HS HB
      go_wp2_with fail
      rw [← rcell_eq]
      generalize wr.alloc (.cells (rcell x).toArray 48) = w1 at *
      unfold KeepR at hK
      go_region_held3 (fun w' => Below w.heap.size w w' ∧ BoxN w' wr.heap.size 48 (rcell x).toArray ∧ w'.cell? ⟨wr.heap.size, 0, none⟩ = some (.string x.1) ∧ w'.cell? ⟨wr.heap.size, 1, none⟩ = some (.int .i64 x.2.k)
    ∧ w'.cell? ⟨wr.heap.size, 2, none⟩ = some (.int .u64 (wd x.2.S 0)) ∧ w'.cell? ⟨wr.heap.size, 3, none⟩ = some (.int .u64 (wd x.2.S 1)) ∧ w'.cell? ⟨wr.heap.size, 4, none⟩ = some (.int .u64 (wd x.2.S 2)) ∧ w'.cell? ⟨wr.heap.size, 5, none⟩ = some (.int .u64 (wd x.2.S 3)) ∧ w'.cell? ⟨wr.heap.size, 6, none⟩ = some (.string x.2.t) ∧ w'.cell? ⟨wr.heap.size, 7, none⟩ = some (.slice x.2.a x.2.kids.length x.2.c))
        (first | exact keepR_call (w := w) (N := wr.heap.size) (x := x) (by assumption) hb | exact keepR_drew (w := w) (N := wr.heap.size) (x := x) hK)
        ((go_at_call 28; refine (hrp _ (by assumption)).mono ?_; rintro e w5 ⟨rfl, hb⟩))
      have hK2 : KeepR w wr.heap.size x w5 := by assumption
      clear hK
      go_wp2_with fail
      exact ⟨⟨i + 1, _, rfl, by go_num, by omega, HT.out _ rfl, hK2.1⟩, by simp [intOf]; omega⟩
set_option maxRecDepth 20000 in
set_option maxHeartbeats 4000000 in
theorem gramPrints_any (g : Gr) (w : World) (hin : g.In w.heap.size w) :
    Calls Try.prog 5 #[g.val] w fun r W' => r = .returned (.bool true) ∧ Below w.heap.size w W' := by
  have hA := (Below.refl w.heap.size w).alloc (Nat.le_refl _) (.cells #[.slice g.a g.rules.length g.c] 24)
  have bG := BoxN.new w 24 #[.slice g.a g.rules.length g.c]
  have HN : Hid (∀ {W}, Below (w.alloc (.cells #[.slice g.a g.rules.length g.c] 24)).heap.size (w.alloc (.cells #[.slice g.a g.rules.length g.c] 24)) W → Below w.heap.size w W ∧ BoxN W w.heap.size 24 #[.slice g.a g.rules.length g.c]) := fun h => ⟨hA.trans (h.mono hA.size), bG.below h (by simp)⟩
  have HS : Hid (∀ {W W2 : World}, Below w.heap.size w W ∧ BoxN W w.heap.size 24 #[.slice g.a g.rules.length g.c] → Below W.heap.size W W2 → Below w.heap.size w W2 ∧ BoxN W2 w.heap.size 24 #[.slice g.a g.rules.length g.c]) := fun h hb => ⟨h.1.trans (hb.mono h.1.size), h.2.below hb h.2.lt⟩
  have h16 := gprint_any g _ (hin.grow hA)
  have h8 : ∀ W, Below w.heap.size w W → _ := fun W h => rgram_any g W (hin.grow h)
  have H17 : Hid (gcheck g.rules = 0 → ∀ W, Below w.heap.size w W → Calls Try.prog 17 #[g.val] W fun r W' => r = .returned (.string ⟨(gpr g.rules).toArray⟩) ∧ Below W.heap.size W W') := fun h0 W h => rtext_any g (gcheck_ok h0) W (hin.grow h)
  unfold gprR at h16
  rw [gval_eq] at h16 h8 H17 ⊢
  generalize gcheck g.rules = C at *
  clear hA bG hin
  by_cases h0 : C = 0
  · subst h0
    have h17 := H17.out rfl
    simp only [↓reduceIte] at h16
    clear H17
    generalize (⟨(gpr g.rules).toArray⟩ : ByteArray) = T at *
    go_enter Try.func5, Try.ntmps5
    go_wp2_with (first
      | (go_at_call 16; refine h16.mono ?_; rintro e W1 ⟨rfl, hb1⟩; have k1 := HN.out hb1; have c1 := k1.2.cell 0; simp only [List.getElem?_toArray, List.getElem?_cons_zero] at c1; clear hb1 h16)
      | (go_at_call 8; refine (h8 _ k1.1).mono ?_; rintro e W2 ⟨rfl, hb2⟩; have k2 := HS.out k1 hb2; have c2 := k2.2.cell 0; simp only [List.getElem?_toArray, List.getElem?_cons_zero] at c2; clear hb2 h8 c1)
      | (go_at_call 17; refine (h17 _ k2.1).mono ?_; rintro e W3 ⟨rfl, hb3⟩; have k3 := HS.out k2 hb3; clear hb3 h17 c2))
    go_ret
    exact ⟨by simp, k3.1⟩
  · have g1 : (C != 0) = true := by simpa using h0
    have hCC : (C == C) = true := by simp
    simp only [h0, ↓reduceIte] at h16
    clear H17
    go_enter Try.func5, Try.ntmps5
    go_wp2_with (first
      | (go_at_call 16; refine h16.mono ?_; rintro e W1 ⟨rfl, hb1⟩; have k1 := HN.out hb1; have c1 := k1.2.cell 0; simp only [List.getElem?_toArray, List.getElem?_cons_zero] at c1; clear hb1 h16)
      | (go_at_call 8; refine (h8 _ k1.1).mono ?_; rintro e W2 ⟨rfl, hb2⟩; have k2 := HS.out k1 hb2; clear hb2 h8 c1))
    go_ret
    exact ⟨by simp, k2.1⟩
end Go.Proofs.Ytbeohmcmphebhaa
