import Derived.Test.YtokdaapmejccbaaGChkB
namespace Go.Proofs.Ytokdaapmejccbaa
open Go.RowKit
set_option linter.unusedVariables false
/-- Each name is a rule's. -/
def namedI (l : List Int) : Bool := l.all fun x => x != -1
def named (all : List (ByteArray × Ex)) : List (ByteArray × Ex) → Bool
  | [] => true
  | r :: l => namedI (insR all r.2) && named all l
theorem named_drop (all l : List (ByteArray × Ex)) (i : Nat) (x : ByteArray × Ex) (h : l[i]? = some x) : named all (l.drop i) = (namedI (insR all x.2) && named all (l.drop (i + 1))) := by
  rw [drop_at l i x h, named]
theorem namedI_drop (l : List Int) (i : Nat) (x : Int) (h : l[i]? = some x) : namedI (l.drop i) = (x != -1 && namedI (l.drop (i + 1))) := by
  rw [drop_at l i x h]; rfl
theorem insR_len (all : List (ByteArray × Ex)) (e : Ex) : (insR all e).length ≤ 60 := by unfold insR; rw [List.length_map]; exact refsR_len e
set_option maxRecDepth 20000 in
set_option maxHeartbeats 4000000 in
theorem namesRules_any (g : Gr) (w : World) (hin : g.In w.heap.size w) :
    Calls Try.prog 61 #[g.val] w fun r W' => r = .returned (.bool (named g.rules g.rules)) ∧ Below w.heap.size w W' := by
  have hlen := hin.len
  have hA := (Below.refl w.heap.size w).alloc (Nat.le_refl _) (.cells #[.slice g.a g.rules.length g.c] 24)
  have bG := BoxN.new w 24 #[.slice g.a g.rules.length g.c]
  have HI : Hid (g.In w.heap.size w) := hin
  have HF : Hid (named g.rules (g.rules.drop 0) = named g.rules g.rules) := rfl
  generalize hR : named g.rules g.rules = R at *
  rw [gval_eq]
  clear hin hR
  go_enter Try.func61, Try.ntmps61
  go_wp2_with fail
  go_loopw [9] (fun p wr => ∃ i : Nat, p = .int .i64 i ∧ i ≤ g.rules.length ∧ Hid (named g.rules (g.rules.drop i) = R) ∧ Hid (Below w.heap.size w wr) ∧ Hid (BoxN wr w.heap.size 24 #[.slice g.a g.rules.length g.c])) (fun p _ => g.rules.length - (intOf p).toNat)
  case atStart => exact ⟨0, rfl, Nat.zero_le _, HF, hA, bG⟩
  case round =>
    clear hA HF bG
    obtain ⟨i, rfl, hi, HR, HB, HG⟩ := hrel
    by_cases hend : i = g.rules.length
    · have hR : true = R := by
        have := HR.out
        rw [hend, List.drop_length, named] at this
        exact this
      have g1 : decide (i < g.rules.length) = false := by simp; omega
      subst hR
      clear hend
      go_wp2_with fail
      go_ret
      exact ⟨rfl, HB.out⟩
    · have hlt : i < g.rules.length := by omega
      clear hend
      obtain ⟨x, hx⟩ : ∃ x, g.rules[i]? = some x := ⟨_, List.getElem?_eq_getElem hlt⟩
      have hri := rulesIn_any g i x hx wr (HI.out.grow HB.out)
      have cG := HG.out.cell 0
      simp only [List.getElem?_toArray, List.getElem?_cons_zero] at cG
      have HD : Hid ((namedI (insR g.rules x.2) && named g.rules (g.rules.drop (i + 1))) = R) := by rw [← named_drop _ _ _ _ hx]; exact HR.out
      have HL : Hid ((insR g.rules x.2).length ≤ 60) := insR_len _ _
      rw [gval_eq] at hri
      generalize insR g.rules x.2 = l at *
      clear hx HR
      go_wp2_with (go_at_call 88; refine hri.mono ?_; rintro e W1 ⟨v, rfl, hS1, hb1⟩; obtain ⟨a1, cp1, rfl⟩ := hS1.form; have HS1 : Hid (Is W1 wr.heap.size (.slice a1 l.length cp1) l ∧ Below w.heap.size w W1 ∧ BoxN W1 w.heap.size 24 #[.slice g.a g.rules.length g.c]) := ⟨hS1, HB.out.trans (hb1.mono HB.out.size), HG.out.below hb1 HG.out.lt⟩; clear hb1 hri hS1 cG)
      go_loopw [16] (fun p wq => ∃ j : Nat, p = .int .i64 j ∧ j ≤ l.length ∧ Hid ((namedI (l.drop j) && named g.rules (g.rules.drop (i + 1))) = R) ∧ wq = W1) (fun p _ => l.length - (intOf p).toNat)
      case atStart => exact ⟨0, rfl, Nat.zero_le _, HD, rfl⟩
      case round =>
        obtain ⟨j, rfl, hj, HR, rfl⟩ := hrel
        have hl60 := HL.out
        by_cases hend : j = l.length
        · have HR2 : Hid (named g.rules (g.rules.drop (i + 1)) = R) := by
            have := HR.out
            rw [hend, List.drop_length] at this
            unfold Hid; simpa [namedI] using this
          have g1 : decide (j < l.length) = false := by simp; omega
          clear hend
          go_wp2_with fail
          exact ⟨⟨i + 1, by go_num, by omega, HR2, HS1.out.2.1, HS1.out.2.2⟩, by simp [intOf]; omega⟩
        · have hjl : j < l.length := by omega
          clear hend
          obtain ⟨x, hx⟩ : ∃ x, l[j]? = some x := ⟨_, List.getElem?_eq_getElem hjl⟩
          obtain ⟨gs, cps, hve, -, -, cx⟩ := Is.at HS1.out.1 hx
          cases hve
          have HR2 : Hid ((x != -1 && namedI (l.drop (j + 1)) && named g.rules (g.rules.drop (i + 1))) = R) := by
            rw [← namedI_drop _ _ _ hx]; exact HR.out
          clear hx
          by_cases hm : x = -1
          · have hR : false = R := by have := HR2.out; rw [hm] at this; simpa using this
            have g2 : (x == -1) = true := by simpa using hm
            subst hR
            clear hm
            go_wp2_with fail
            go_ret
            exact ⟨rfl, HS1.out.2.1⟩
          · have HR3 : Hid ((namedI (l.drop (j + 1)) && named g.rules (g.rules.drop (i + 1))) = R) := by
              have := HR2.out
              rw [show (x != -1) = true from by simpa using hm, Bool.true_and] at this
              exact this
            have g2 : (x == -1) = false := by simpa using hm
            clear hm
            go_wp2_with fail
            exact ⟨⟨j + 1, by go_num, by omega, HR3, trivial⟩, by simp [intOf]; omega⟩
/-- What is wrong first, rule by rule. -/
def rulesChk (all : List (ByteArray × Ex)) : Nat → List (ByteArray × Ex) → Int
  | _, [] => 0
  | i, r :: l => if ruleChk all i r ≠ 0 then ruleChk all i r else rulesChk all (i + 1) l
/-- What Check tells. -/
def gcheck (l : List (ByteArray × Ex)) : Int :=
  if l.length = 0 then 1 else if 10 < l.length then 2 else if rulesChk l 0 l ≠ 0 then rulesChk l 0 l else if 120 < gcount l then 2 else if named l l then 0 else 6
set_option maxRecDepth 20000 in
set_option maxHeartbeats 4000000 in
theorem gcheck_any (g : Gr) (w : World) (hin : g.In w.heap.size w) :
    Calls Try.prog 31 #[g.val] w fun r W' => r = .returned (.int .i64 (gcheck g.rules)) ∧ Below w.heap.size w W' := by
  have hlen := hin.len
  have hA := (Below.refl w.heap.size w).alloc (Nat.le_refl _) (.cells #[.slice g.a g.rules.length g.c] 24)
  have bG := BoxN.new w 24 #[.slice g.a g.rules.length g.c]
  have HI : Hid (g.In w.heap.size w) := hin
  have HC : Hid ((if g.rules.length = 0 then (1 : Int) else if 10 < g.rules.length then (2 : Int) else if rulesChk g.rules 0 g.rules ≠ 0 then rulesChk g.rules 0 g.rules else if 120 < gcount g.rules then 2 else if named g.rules g.rules then 0 else 6) = gcheck g.rules) := rfl
  generalize hR : gcheck g.rules = R at *
  clear hR
  rw [gval_eq]
  clear hin
  by_cases h0 : g.rules.length = 0
  · have hR : (1 : Int) = R := by have := HC.out; rw [if_pos h0] at this; exact this
    subst hR
    rw [h0] at hA ⊢
    go_enter Try.func31, Try.ntmps31
    go_wp2_with fail
    go_ret
    exact ⟨rfl, hA⟩
  · have g1 : ((g.rules.length : Int) == 0) = false := by rw [beq_eq_false_iff_ne]; omega
    have HC1 : Hid ((if 10 < g.rules.length then (2 : Int) else if rulesChk g.rules 0 g.rules ≠ 0 then rulesChk g.rules 0 g.rules else if 120 < gcount g.rules then 2 else if named g.rules g.rules then 0 else 6) = R) := by have := HC.out; rw [if_neg h0] at this; exact this
    clear HC
    by_cases h10 : 10 < g.rules.length
    · have hR : (2 : Int) = R := by have := HC1.out; rw [if_pos h10] at this; exact this
      subst hR
      have g2 : decide ((10 : Int) < (g.rules.length : Int)) = true := decide_eq_true (by omega)
      clear h10
      go_enter Try.func31, Try.ntmps31
      go_wp2_with fail
      go_ret
      exact ⟨rfl, hA⟩
    · have HC2 : Hid ((if rulesChk g.rules 0 (g.rules.drop 0) ≠ 0 then rulesChk g.rules 0 (g.rules.drop 0) else if 120 < gcount g.rules then 2 else if named g.rules g.rules then 0 else 6) = R) := by have := HC1.out; rw [if_neg h10] at this; exact this
      have g2 : decide ((10 : Int) < (g.rules.length : Int)) = false := decide_eq_false (by omega)
      have h10' : g.rules.length ≤ 10 := by omega
      clear h10 HC1
      go_enter Try.func31, Try.ntmps31
      go_wp2_with fail
      go_loopw [18] (fun p wr => ∃ i : Nat, p = .int .i64 i ∧ i ≤ g.rules.length ∧ Hid ((if rulesChk g.rules i (g.rules.drop i) ≠ 0 then rulesChk g.rules i (g.rules.drop i) else if 120 < gcount g.rules then 2 else if named g.rules g.rules then 0 else 6) = R) ∧ Hid (Below w.heap.size w wr) ∧ Hid (BoxN wr w.heap.size 24 #[.slice g.a g.rules.length g.c])) (fun p _ => g.rules.length - (intOf p).toNat)
      case atStart => exact ⟨0, rfl, Nat.zero_le _, HC2, hA, bG⟩
      case round =>
        clear hA HC2 bG
        obtain ⟨i, rfl, hi, HR, HB, HG⟩ := hrel
        have cG := HG.out.cell 0
        simp only [List.getElem?_toArray, List.getElem?_cons_zero] at cG
        by_cases hend : i = g.rules.length
        · have HR2 : Hid ((if 120 < gcount g.rules then (2 : Int) else if named g.rules g.rules then 0 else 6) = R) := by
            have := HR.out
            rw [hend, List.drop_length, rulesChk, if_neg (by simp)] at this
            exact this
          have g3 : decide (i < g.rules.length) = false := by simp; omega
          have hcn := countNodes_any g wr (HI.out.grow HB.out) h10'
          have hnr : ∀ W, Below wr.heap.size wr W → _ := fun W h => namesRules_any g W ((HI.out.grow HB.out).grow h)
          rw [gval_eq] at hcn hnr
          have HN : Hid (∀ {W}, Below wr.heap.size wr W → Below w.heap.size w W ∧ W.cell? ⟨w.heap.size, 0, none⟩ = some (.slice g.a g.rules.length g.c)) := fun h => ⟨HB.out.trans (h.mono HB.out.size), (h.cell (p := ⟨w.heap.size, 0, none⟩) HG.out.lt).trans cG⟩
          generalize gcount g.rules = q at *
          generalize named g.rules g.rules = z at *
          clear hend HR
          by_cases hq : 120 < q
          · have hR : (2 : Int) = R := by have := HR2.out; rw [if_pos hq] at this; exact this
            subst hR
            have g4 : decide (120 < q) = true := by simpa using hq
            go_wp2_with (go_at_call 60; refine hcn.mono ?_; rintro e W1 ⟨rfl, hb1⟩)
            go_ret
            exact ⟨rfl, (HN.out hb1).1⟩
          · have HR3 : Hid ((if z then (0 : Int) else 6) = R) := by have := HR2.out; rw [if_neg hq] at this; exact this
            have g4 : decide (120 < q) = false := by simpa using hq
            clear hq HR2
            cases z with
            | true =>
              have hR : (0 : Int) = R := HR3.out
              subst hR
              go_wp2_with (first
                | (go_at_call 60; refine hcn.mono ?_; rintro e W1 ⟨rfl, hb1⟩; have k1 := HN.out hb1; have c1 := k1.2)
                | (go_at_call 61; refine (hnr _ hb1).mono ?_; rintro e W2 ⟨rfl, hb2⟩))
              go_ret
              exact ⟨rfl, k1.1.trans (hb2.mono k1.1.size)⟩
            | false =>
              have hR : (6 : Int) = R := HR3.out
              subst hR
              go_wp2_with (first
                | (go_at_call 60; refine hcn.mono ?_; rintro e W1 ⟨rfl, hb1⟩; have k1 := HN.out hb1; have c1 := k1.2)
                | (go_at_call 61; refine (hnr _ hb1).mono ?_; rintro e W2 ⟨rfl, hb2⟩))
              go_ret
              exact ⟨rfl, k1.1.trans (hb2.mono k1.1.size)⟩
        · have hlt : i < g.rules.length := by omega
          clear hend
          obtain ⟨x, hx⟩ : ∃ x, g.rules[i]? = some x := ⟨_, List.getElem?_eq_getElem hlt⟩
          have hcr := checkRule_any g i x hx wr (HI.out.grow HB.out)
          rw [gval_eq] at hcr
          have HD : Hid ((if (if ruleChk g.rules i x ≠ 0 then ruleChk g.rules i x else rulesChk g.rules (i + 1) (g.rules.drop (i + 1))) ≠ 0 then (if ruleChk g.rules i x ≠ 0 then ruleChk g.rules i x else rulesChk g.rules (i + 1) (g.rules.drop (i + 1))) else if 120 < gcount g.rules then 2 else if named g.rules g.rules then 0 else 6) = R) := by
            have := HR.out
            rw [drop_at _ _ _ hx, rulesChk] at this
            exact this
          have HN : Hid (∀ {W}, Below wr.heap.size wr W → Below w.heap.size w W ∧ BoxN W w.heap.size 24 #[.slice g.a g.rules.length g.c]) := fun h => ⟨HB.out.trans (h.mono HB.out.size), HG.out.below h HG.out.lt⟩
          generalize ruleChk g.rules i x = q at *
          clear hx HR HB HG
          by_cases hq : q = 0
          · have HR2 : Hid ((if rulesChk g.rules (i + 1) (g.rules.drop (i + 1)) ≠ 0 then rulesChk g.rules (i + 1) (g.rules.drop (i + 1)) else if 120 < gcount g.rules then 2 else if named g.rules g.rules then 0 else 6) = R) := by
              have := HD.out
              rw [hq] at this
              unfold Hid
              simpa using this
            subst hq
            clear HD
            go_wp2_with (go_at_call 59; refine hcr.mono ?_; rintro e W1 ⟨rfl, hb1⟩; have k1 : Hid _ := HN.out hb1; clear hb1 hcr)
            exact ⟨⟨i + 1, by go_num, by omega, HR2, k1.out.1, k1.out.2⟩, by simp [intOf]; omega⟩
          · have hR : q = R := by
              have := HD.out
              rw [if_pos hq, if_pos hq] at this
              exact this
            subst hR
            have g4 : (q != 0) = true := by simpa using hq
            have g5 : (q == 0) = false := by simpa using hq
            clear hq HD
            go_wp2_with (go_at_call 59; refine hcr.mono ?_; rintro e W1 ⟨rfl, hb1⟩; have k1 : Hid _ := HN.out hb1; clear hb1 hcr)
            go_ret
            exact ⟨rfl, k1.out.1⟩
end Go.Proofs.Ytokdaapmejccbaa
