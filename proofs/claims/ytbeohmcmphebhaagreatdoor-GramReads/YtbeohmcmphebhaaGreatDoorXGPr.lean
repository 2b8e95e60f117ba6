import Derived.Test.YtbeohmcmphebhaaGreatDoorXRch
import Derived.Test.YtbeohmcmphebhaaGreatDoorXPrint
namespace Go.Proofs.YtbeohmcmphebhaaGreatDoor
open Go.RowKit
set_option linter.unusedVariables false
/-- A rule's line. -/
def line (r : ByteArray × Ex) : List UInt8 := (r.1 ++ ⟨#[32, 60, 45, 32]⟩ ++ ⟨r.2.pr.toArray⟩ : ByteArray).data.toList ++ [10]
def gpr (l : List (ByteArray × Ex)) : List UInt8 := l.flatMap line
theorem gpr_take (l : List (ByteArray × Ex)) (i : Nat) (x : ByteArray × Ex) (h : l[i]? = some x) : gpr (l.take (i + 1)) = gpr (l.take i) ++ line x := by
  unfold gpr; rw [List.take_add_one, h, Option.toList_some, List.flatMap_append]; simp
theorem bsz (b : ByteArray) : b.data.toList.length = b.size := Array.length_toList
theorem line_len (r : ByteArray × Ex) : (line r).length = r.1.size + 4 + r.2.pr.length + 1 := by
  unfold line; rw [List.length_append, bsz, ByteArray.size_append, ByteArray.size_append]; show r.1.size + 4 + r.2.pr.toArray.size + 1 = _; rw [List.size_toArray]
theorem isName_len (l : List UInt8) (h : isName l = true) : l.length ≤ 8 := by
  unfold isName at h
  simp at h
  omega
theorem line_le {all : List (ByteArray × Ex)} {i : Nat} {r : ByteArray × Ex} (h : ruleChk all i r = 0) : r.1.size ≤ 8 ∧ r.2.pr.length ≤ 180000 ∧ (line r).length ≤ 180100 := by
  obtain ⟨h1, _, h3⟩ := ruleChk_zero h
  have h4 := isName_len _ h1
  have h5 := bsz r.1
  have h6 := pr_len r.2 (okA_check r.2 h3)
  have h7 := ((check_zero r.2).1 h3).1
  rw [line_len]
  omega
theorem gpr_le {all : List (ByteArray × Ex)} (hok : GOk all) : ∀ i : Nat, i ≤ all.length → (gpr (all.take i)).length ≤ i * 180100
  | 0, _ => by simp [gpr]
  | i + 1, hi => by
    obtain ⟨x, hx⟩ : ∃ x, all[i]? = some x := ⟨_, List.getElem?_eq_getElem (by omega)⟩
    have h1 := gpr_le hok i (by omega)
    have h2 := (line_le (hok.rules i x hx)).2.2
    rw [gpr_take _ _ _ hx, List.length_append]
    omega
/-- What Print tells. -/
def gprR (l : List (ByteArray × Ex)) : List UInt8 := if gcheck l = 0 then gpr l else []
theorem Holds.form {w : World} {base : Nat} {v : Value} {l : List UInt8} (h : Holds w base v l) : ∃ a c, v = .slice a l.length c := by
  rcases h.2 with ⟨rfl, h0⟩ | ⟨g, cap, cur, rfl, _⟩
  · exact ⟨none, 0, by rw [h0]⟩
  · exact ⟨_, _, rfl⟩
set_option maxRecDepth 20000 in
set_option maxHeartbeats 8000000 in
theorem gprint_any (g : Gr) (w : World) (hin : g.In w.heap.size w) :
    Calls Tryz.prog 9 #[g.val] w fun r W' => r = .returned (.tuple #[.string ⟨(gprR g.rules).toArray⟩, .int .i64 (gcheck g.rules)]) ∧ Below w.heap.size w W' := by
  have hA := (Below.refl w.heap.size w).alloc (Nat.le_refl _) (.cells #[.slice g.a g.rules.length g.c] 24)
  have bG := BoxN.new w 24 #[.slice g.a g.rules.length g.c]
  have hck := gcheck_any g _ (hin.grow hA)
  have HN : Hid (∀ {W}, Below (w.alloc (.cells #[.slice g.a g.rules.length g.c] 24)).heap.size (w.alloc (.cells #[.slice g.a g.rules.length g.c] 24)) W → Below w.heap.size w W ∧ BoxN W w.heap.size 24 #[.slice g.a g.rules.length g.c]) := fun h => ⟨hA.trans (h.mono hA.size), bG.below h (by simp)⟩
  have HI : Hid (g.In w.heap.size w) := hin
  have HG : Hid (gcheck g.rules = 0 → GOk g.rules) := gcheck_ok
  rw [gval_eq] at hck ⊢
  unfold gprR
  generalize gcheck g.rules = C at *
  clear hA bG hin
  by_cases h0 : C = 0
  · subst h0
    rw [if_pos rfl]
    have HO : Hid (GOk g.rules) := HG.out rfl
    have h10 := HO.out.most
    have HF : Hid (g.rules.take g.rules.length = g.rules) := List.take_length
    clear HG
    go_enter Tryz.func9, Tryz.ntmps9
    go_wp2_with (go_at_call 10; refine hck.mono ?_; rintro e W1 ⟨rfl, hb1⟩; have k1 := HN.out hb1; have c1 := k1.2.cell 0; simp only [List.getElem?_toArray, List.getElem?_cons_zero] at c1; have K1 : Hid (Below w.heap.size w W1) := k1.1; clear hb1 hck k1)
    clear c1 HN
    go_loopw [5, 18] (fun p q wr => ∃ (i : Nat), q = .int .i64 i ∧ i ≤ g.rules.length ∧ Hid (Holds wr W1.heap.size p (gpr (g.rules.take i)) ∧ Below W1.heap.size W1 wr)) (fun _ q _ => g.rules.length - (intOf q).toNat)
    case atStart => exact ⟨0, rfl, Nat.zero_le _, World.ownsRow_nil _ _ _ _, Below.refl _ _⟩
    case round =>
      obtain ⟨i, rfl, hil, HQ⟩ := hrel
      have hBw : Below w.heap.size w wr := K1.out.trans (HQ.out.2.mono K1.out.size)
      by_cases hend : i = g.rules.length
      · have hcv := HQ.out.1.conv
        rw [hend, HF.out] at hcv
        have g1 : decide (i < g.rules.length) = false := by simp; omega
        clear hend
        go_wp2_with fail
        refine bodyPost_ret (by simp [results, Tryz.results9, go_sem]) rfl ⟨rfl, hBw⟩
      · have hlt : i < g.rules.length := by omega
        clear hend
        obtain ⟨x, hx⟩ : ∃ x, g.rules[i]? = some x := ⟨_, List.getElem?_eq_getElem hlt⟩
        have hru := (HI.out.below hBw).rule i x hx
        obtain ⟨b, o, ha, hb, c0, c1, c2, c3, c4, c5, c6, c7⟩ := rcells hru
        have hll := line_le (HO.out.rules i x hx)
        have hgl := gpr_le HO.out i hil
        have hx0 := (ruleChk_zero (HO.out.rules i x hx)).2.2
        have hA1 := (Below.refl _ wr).alloc (Nat.le_refl _) (.cells (rcell x).toArray 49)
        have hpr := print_any x.2 _ ((hru.body.mono hBw.size).grow hA1)
        rw [show prR x.2 = x.2.pr from by unfold prR; rw [if_pos hx0], hx0] at hpr
        have HX : Hid (∀ {W}, Below (wr.alloc (.cells (rcell x).toArray 49)).heap.size (wr.alloc (.cells (rcell x).toArray 49)) W → Below wr.heap.size wr W ∧ BoxN W wr.heap.size 49 (rcell x).toArray) := fun h => ⟨hA1.trans (h.mono hA1.size), (BoxN.new wr 49 _).below h (by simp)⟩
        have HT : Hid (gpr (g.rules.take (i + 1)) = gpr (g.rules.take i) ++ ((x.1 ++ ⟨#[32, 60, 45, 32]⟩ ++ ⟨x.2.pr.toArray⟩ : ByteArray).data.toList ++ [10])) := gpr_take _ _ _ hx
        have hts : (x.1 ++ ⟨#[32, 60, 45, 32]⟩ ++ ⟨x.2.pr.toArray⟩ : ByteArray).size ≤ 180100 := by
          have h1 := hll.2.2
          unfold line at h1
          rw [List.length_append] at h1
          have h2 := bsz (x.1 ++ ⟨#[32, 60, 45, 32]⟩ ++ ⟨x.2.pr.toArray⟩ : ByteArray)
          omega
        have hs1 := HQ.out.2.size
        have hp8 : x.2.pr.toArray.size ≤ 180000 := by simpa using hll.2.1
        rw [val_eq] at hpr
        rw [rcell_eq] at hpr HX
        generalize x.2.pr = P at *
        generalize gpr (g.rules.take i) = G at *
        rw [ha]
        clear hx hru hb hA1 hx0
        go_wp2_with (first
          | (go_at_call 18; refine hpr.mono ?_; rintro e W2 ⟨rfl, hb2⟩; have k2 := HX.out hb2; have cR := k2.2.cell; have H2 : Hid (Holds W2 W1.heap.size _ G ∧ Below W1.heap.size W1 W2 ∧ W1.heap.size ≤ W2.heap.size) := ⟨HQ.out.1.below k2.1, HQ.out.2.trans (k2.1.mono hs1), Nat.le_trans hs1 k2.1.size⟩; clear hb2 hpr HX k2)
          | (at_builtin; refine wpList_app_str rfl _ _ rfl rfl H2.out.1 H2.out.2.2 (x.1 ++ ⟨#[32, 60, 45, 32]⟩ ++ ⟨P.toArray⟩) rfl (by omega) ?_; intro v3 w3 hA3; have H3 : Hid (Holds w3 W1.heap.size v3 (G ++ (x.1 ++ ⟨#[32, 60, 45, 32]⟩ ++ ⟨P.toArray⟩ : ByteArray).data.toList) ∧ Below W1.heap.size W1 w3 ∧ W1.heap.size ≤ w3.heap.size) := ⟨hA3.own, H2.out.2.1.trans (hA3.low H2.out.1 H2.out.2.2), Nat.le_trans H2.out.2.2 hA3.grown.size⟩; clear hA3)
          | (at_builtin; refine wpList_app_byte rfl _ _ rfl rfl (H3.out.1.below ((Below.refl _ w3).alloc (Nat.le_refl _) _)) (Nat.le_trans H3.out.2.2 (by simp)) w3.heap.size 10 (BoxN.new w3 5 _) rfl (by rw [List.length_append, bsz]; omega) ?_; intro v4 w4 hA4; have H4 : Hid (Holds w4 W1.heap.size v4 (G ++ (x.1 ++ ⟨#[32, 60, 45, 32]⟩ ++ ⟨P.toArray⟩ : ByteArray).data.toList ++ [10]) ∧ Below W1.heap.size W1 w4) := ⟨hA4.own, (H3.out.2.1.alloc H3.out.2.2 _).trans (hA4.low (H3.out.1.below ((Below.refl _ w3).alloc (Nat.le_refl _) _)) (Nat.le_trans H3.out.2.2 (by simp)))⟩; clear hA4))
        exact ⟨⟨i + 1, by go_num, by omega, by rw [HT.out, ← List.append_assoc]; exact H4⟩, by simp [intOf]; omega⟩
  · rw [if_neg h0]
    have g1 : (C != 0) = true := by simpa using h0
    go_enter Tryz.func9, Tryz.ntmps9
    go_wp2_with (go_at_call 10; refine hck.mono ?_; rintro e W1 ⟨rfl, hb1⟩; have k1 := HN.out hb1; clear hb1 hck)
    refine bodyPost_ret (by simp [results, Tryz.results9, go_sem]) rfl ⟨rfl, k1.1⟩
end Go.Proofs.YtbeohmcmphebhaaGreatDoor
