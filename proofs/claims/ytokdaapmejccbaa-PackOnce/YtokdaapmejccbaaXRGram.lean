import Derived.Test.YtokdaapmejccbaaXGChkC
import Derived.Test.YtokdaapmejccbaaXRrefs
namespace Go.Proofs.Ytokdaapmejccbaa
open Go.RowKit
set_option linter.unusedVariables false
theorem fndF_ge : ∀ (l : List (ByteArray × Ex)) (i : Nat) (s : ByteArray), fndF i l s = -1 ∨ ((i : Int) ≤ fndF i l s ∧ fndF i l s < (i : Int) + l.length)
  | [], _, _ => .inl rfl
  | r :: l, i, s => by
    rw [fndF]
    split
    · right; rw [List.length_cons]; omega
    · have := fndF_ge l (i + 1) s
      rw [List.length_cons]
      omega
theorem fndF_le : ∀ (l : List (ByteArray × Ex)) (i j : Nat) (r : ByteArray × Ex), l[j]? = some r → (i : Int) ≤ fndF i l r.1 ∧ fndF i l r.1 ≤ (i : Int) + j
  | [], _, _, _, h => by simp at h
  | x :: l, i, 0, r, h => by
    simp at h; subst h
    rw [fndF, if_pos rfl]; omega
  | x :: l, i, j + 1, r, h => by
    rw [fndF]
    split
    · omega
    · have := fndF_le l (i + 1) j r (by simpa using h)
      omega
theorem fnd_le (l : List (ByteArray × Ex)) (i : Nat) (r : ByteArray × Ex) (h : l[i]? = some r) : 0 ≤ fnd l r.1 ∧ fnd l r.1 ≤ i := by
  have := fndF_le l 0 i r h; unfold fnd; omega
theorem fnd_neg (l : List (ByteArray × Ex)) (s : ByteArray) : fnd l s = -1 ∨ (0 ≤ fnd l s ∧ fnd l s < l.length) := by
  have := fndF_ge l 0 s; unfold fnd; omega
theorem ruleChk_zero {all : List (ByteArray × Ex)} {i : Nat} {r : ByteArray × Ex} (h : ruleChk all i r = 0) : isName r.1.data.toList = true ∧ fnd all r.1 = i ∧ check r.2 = 0 := by
  unfold ruleChk at h
  split at h
  · cases h
  · rename_i h1
    split at h
    · cases h
    · rename_i h2
      refine ⟨by simpa using h1, by omega, h⟩
theorem rulesChk_zero {all : List (ByteArray × Ex)} : ∀ (l : List (ByteArray × Ex)) (i : Nat), rulesChk all i l = 0 → ∀ j r, l[j]? = some r → ruleChk all (i + j) r = 0
  | [], _, _, _, _, h => by simp at h
  | x :: l, i, h, j, r, hr => by
    rw [rulesChk] at h
    split at h
    · rename_i h1; exact absurd h h1
    · rename_i h1
      match j, hr with
      | 0, hr => simp at hr; subst hr; simpa using h1
      | j + 1, hr =>
        have := rulesChk_zero l (i + 1) h j r (by simpa using hr)
        rwa [show i + 1 + j = i + (j + 1) from by omega] at this
theorem refs_same (e : Ex) (h : check e = 0) : refsOf (rnodes e) = refsR e := by
  unfold refsR; rw [if_pos h, rnodes_ok e h]
def gfin (l : List (ByteArray × Ex)) (c : Int) : Int := if c ≠ 0 then c else if 120 < gcount l then 2 else if named l l then 0 else 6
theorem gfin_ne (l : List (ByteArray × Ex)) (c : Int) (h : c ≠ 0) : gfin l c = c := by unfold gfin; rw [if_pos h]
theorem gfin_zero (l : List (ByteArray × Ex)) : gfin l 0 = if 120 < gcount l then 2 else if named l l then 0 else 6 := by unfold gfin; rw [if_neg (by simp)]
theorem rulesChk_ne (all : List (ByteArray × Ex)) (i : Nat) (r : ByteArray × Ex) (l : List (ByteArray × Ex)) (h : ruleChk all i r ≠ 0) : rulesChk all i (r :: l) = ruleChk all i r := by rw [rulesChk, if_pos h]
theorem rulesChk_next (all : List (ByteArray × Ex)) (i : Nat) (r : ByteArray × Ex) (l : List (ByteArray × Ex)) (h : ruleChk all i r = 0) : rulesChk all i (r :: l) = rulesChk all (i + 1) l := by rw [rulesChk, if_neg (by simpa using h)]
set_option maxRecDepth 20000 in
set_option maxHeartbeats 8000000 in
theorem rgram_any (g : Gr) (w : World) (hin : g.In w.heap.size w) :
    Calls Try.prog 67 #[g.val] w fun r W' => r = .returned (.int .i64 (gcheck g.rules)) ∧ Below w.heap.size w W' := by
  have hlen := hin.len
  have hA := (Below.refl w.heap.size w).alloc (Nat.le_refl _) (.cells #[.slice g.a g.rules.length g.c] 24)
  have bG := BoxN.new w 24 #[.slice g.a g.rules.length g.c]
  have HI : Hid (g.In w.heap.size w) := hin
  have HC : Hid ((if g.rules.length = 0 then (1 : Int) else if 10 < g.rules.length then (2 : Int) else gfin g.rules (rulesChk g.rules 0 g.rules)) = gcheck g.rules) := rfl
  generalize hR : gcheck g.rules = R at *
  clear hR
  rw [gval_eq]
  clear hin
  by_cases h0 : g.rules.length = 0
  · have hR : (1 : Int) = R := by have := HC.out; rw [if_pos h0] at this; exact this
    subst hR
    rw [h0] at hA ⊢
    go_enter Try.func67, Try.ntmps67
    go_wp2_with fail
    go_ret
    exact ⟨rfl, hA⟩
  · have g1 : decide ((g.rules.length : Int) < 1) = false := decide_eq_false (by omega)
    have HC1 : Hid ((if 10 < g.rules.length then (2 : Int) else gfin g.rules (rulesChk g.rules 0 g.rules)) = R) := by have := HC.out; rw [if_neg h0] at this; exact this
    clear HC
    by_cases h10 : 10 < g.rules.length
    · have hR : (2 : Int) = R := by have := HC1.out; rw [if_pos h10] at this; exact this
      subst hR
      have g2 : decide ((10 : Int) < (g.rules.length : Int)) = true := decide_eq_true (by omega)
      clear h10
      go_enter Try.func67, Try.ntmps67
      go_wp2_with fail
      go_ret
      exact ⟨rfl, hA⟩
    · have HC2 : Hid (gfin g.rules (rulesChk g.rules 0 (g.rules.drop 0)) = R) := by have := HC1.out; rw [if_neg h10] at this; exact this
      have g2 : decide ((10 : Int) < (g.rules.length : Int)) = false := decide_eq_false (by omega)
      have h10' : g.rules.length ≤ 10 := by omega
      clear h10 HC1
      go_enter Try.func67, Try.ntmps67
      go_wp2_with fail
      go_loopw [3, 21] (fun p q wr => ∃ i : Nat, p = .int .i64 (gcount (g.rules.take i)) ∧ q = .int .i64 i ∧ i ≤ g.rules.length ∧ Hid (∀ (j : Nat) (r : ByteArray × Ex), j < i → g.rules[j]? = some r → check r.2 = 0) ∧ Hid (gfin g.rules (rulesChk g.rules i (g.rules.drop i)) = R) ∧ Hid (Below w.heap.size w wr) ∧ Hid (BoxN wr w.heap.size 24 #[.slice g.a g.rules.length g.c])) (fun _ q _ => g.rules.length - (intOf q).toNat)
      case atStart => exact ⟨0, rfl, rfl, Nat.zero_le _, fun j r h => absurd h (by omega), HC2, hA, bG⟩
      case round =>
        clear hA HC2 bG
        obtain ⟨i, rfl, rfl, hi, HK, HR, HB, HG⟩ := hrel
        have cG := HG.out.cell 0
        simp only [List.getElem?_toArray, List.getElem?_cons_zero] at cG
        have hgc := gcount_le (g.rules.take i)
        rw [List.length_take] at hgc
        by_cases hend : i = g.rules.length
        · have HR2 : Hid ((if 120 < gcount g.rules then (2 : Int) else if named g.rules (g.rules.drop 0) then 0 else 6) = R) := by
            have := HR.out
            rw [hend, List.drop_length, rulesChk, gfin_zero] at this
            exact this
          have HK2 : Hid (∀ (j : Nat) (r : ByteArray × Ex), g.rules[j]? = some r → check r.2 = 0) := fun j r h => HK.out j r (by have := (List.getElem?_eq_some_iff.1 h).1; omega) h
          have g3 : decide (i < g.rules.length) = false := by simp; omega
          have hgt : g.rules.take i = g.rules := by rw [hend, List.take_length]
          rw [hgt] at hgc ⊢
          clear hend HR HK hgt
          generalize gcount g.rules = q at *
          by_cases hq : 120 < q
          · have hR : (2 : Int) = R := by have := HR2.out; rw [if_pos hq] at this; exact this
            subst hR
            have g4 : decide (120 < q) = true := by simpa using hq
            go_wp2_with fail
            go_ret
            exact ⟨rfl, HB.out⟩
          · have HR3 : Hid ((if named g.rules (g.rules.drop 0) then (0 : Int) else 6) = R) := by have := HR2.out; rw [if_neg hq] at this; exact this
            have g4 : decide (120 < q) = false := by simpa using hq
            clear hq HR2
            go_wp2_with fail
            clear g3 g4
            go_loopw [58] (fun p wq => ∃ i : Nat, p = .int .i64 i ∧ i ≤ g.rules.length ∧ Hid ((if named g.rules (g.rules.drop i) then (0 : Int) else 6) = R) ∧ Hid (Below w.heap.size w wq) ∧ Hid (BoxN wq w.heap.size 24 #[.slice g.a g.rules.length g.c])) (fun p _ => g.rules.length - (intOf p).toNat)
            case atStart => exact ⟨0, rfl, Nat.zero_le _, HR3, HB, HG⟩
            case round =>
              clear HB HG HR3 cG hgc hi
              obtain ⟨i, rfl, hi, HR, HB, HG⟩ := hrel
              have cG := HG.out.cell 0
              simp only [List.getElem?_toArray, List.getElem?_cons_zero] at cG
              by_cases hend : i = g.rules.length
              · have hR : (0 : Int) = R := by
                  have := HR.out
                  rw [hend, List.drop_length, named] at this
                  exact this
                have g1 : decide (i < g.rules.length) = false := by simp; omega
                subst hR
                clear hend
                go_wp2_with fail
                go_ret
                exact ⟨rfl, HB.out⟩
              · have hlt : i < g.rules.length := by omega
                clear hend
                obtain ⟨x, hx⟩ : ∃ x, g.rules[i]? = some x := ⟨_, List.getElem?_eq_getElem hlt⟩
                have hru := (HI.out.below HB.out).rule i x hx
                obtain ⟨b, o, ha, hb, c0, c1, c2, c3, c4, c5, c6, c7⟩ := rcells hru
                have hA := HB.out.alloc HB.out.size (.cells (rcell x).toArray 76)
                have HN : Hid (∀ {W}, Below (wr.alloc (.cells (rcell x).toArray 76)).heap.size (wr.alloc (.cells (rcell x).toArray 76)) W → Below w.heap.size w W ∧ BoxN W w.heap.size 24 #[.slice g.a g.rules.length g.c]) := fun h => ⟨hA.trans (h.mono hA.size), (HG.out.alloc _).below h (by have := HG.out.lt; simp; omega)⟩
                have hrr := rrefs_any x.2 _ ((hru.body.mono HB.out.size).grow ((Below.refl _ wr).alloc (Nat.le_refl _) (.cells (rcell x).toArray 76)))
                rw [refs_same x.2 (HK2.out i x hx)] at hrr
                have HD : Hid ((if (namedI ((refsR x.2).map (fnd g.rules)) && named g.rules (g.rules.drop (i + 1))) then (0 : Int) else 6) = R) := by
                  have := HR.out
                  rw [named_drop _ _ _ _ hx] at this
                  exact this
                have HL : Hid ((refsR x.2).length ≤ 60) := refsR_len _
                rw [val_eq] at hrr
                rw [rcell_eq] at hrr HN
                generalize refsR x.2 = l at *
                rw [ha] at cG HN ⊢
                clear hx HR HB HG hru hb hA
                go_wp2_with (go_at_call 99; refine hrr.mono ?_; rintro e W1 ⟨v, rfl, hS1, hb1⟩; obtain ⟨a1, cp1, rfl⟩ := hS1.form; have HS1 : Hid _ := hS1; have k1 : Hid _ := HN.out hb1; clear hb1 hrr hS1 HN cG c0 c1 c2 c3 c4 c5 c6 c7)
                go_loopw [66] (fun p wq => ∃ j : Nat, p = .int .i64 j ∧ j ≤ l.length ∧ Hid ((if (namedI ((l.drop j).map (fnd g.rules)) && named g.rules (g.rules.drop (i + 1))) then (0 : Int) else 6) = R) ∧ Hid (Below W1.heap.size W1 wq)) (fun p _ => l.length - (intOf p).toNat)
                case atStart => exact ⟨0, rfl, Nat.zero_le _, HD, Below.refl _ _⟩
                case round =>
                  clear HD
                  obtain ⟨j, rfl, hj, HR, HQ⟩ := hrel
                  have hl60 := HL.out
                  have hBw : Below w.heap.size w wr := k1.out.1.trans (HQ.out.mono k1.out.1.size)
                  by_cases hend : j = l.length
                  · have HR2 : Hid ((if named g.rules (g.rules.drop (i + 1)) then (0 : Int) else 6) = R) := by
                      have := HR.out
                      rw [hend, List.drop_length] at this
                      unfold Hid
                      simpa [namedI] using this
                    have g1 : decide (j < l.length) = false := by simp; omega
                    have bG := k1.out.2.below HQ.out k1.out.2.lt
                    have HBG : Hid _ := bG
                    have HBw : Hid _ := hBw
                    clear hend bG hBw
                    go_wp2_with fail
                    exact ⟨⟨i + 1, by go_num, by omega, HR2, HBw.out, HBG.out⟩, by simp [intOf]; omega⟩
                  · have hjl : j < l.length := by omega
                    clear hend
                    obtain ⟨x, hx⟩ : ∃ x, l[j]? = some x := ⟨_, List.getElem?_eq_getElem hjl⟩
                    obtain ⟨gs, cps, hve, -, hg2, cx0⟩ := Ss.at HS1.out hx
                    cases hve
                    have cx : wr.cell? ⟨gs, j, none⟩ = some (.string x) := (HQ.out.cell (p := ⟨gs, j, none⟩) hg2).trans cx0
                    have cG := (k1.out.2.below HQ.out k1.out.2.lt).cell 0
                    simp only [List.getElem?_toArray, List.getElem?_cons_zero] at cG
                    have hfi := rfind_any g x wr (HI.out.grow hBw)
                    rw [gval_eq, ha] at hfi
                    have HR2 : Hid ((if (fnd g.rules x != -1 && namedI ((l.drop (j + 1)).map (fnd g.rules)) && named g.rules (g.rules.drop (i + 1))) then (0 : Int) else 6) = R) := by
                      have := HR.out
                      rw [drop_at _ _ _ hx] at this
                      exact this
                    have HN : Hid (∀ {W}, Below wr.heap.size wr W → Below w.heap.size w W ∧ Below W1.heap.size W1 W) := fun h => ⟨hBw.trans (h.mono hBw.size), HQ.out.trans (h.mono HQ.out.size)⟩
                    have hneg := fnd_neg g.rules x
                    generalize fnd g.rules x = q at *
                    clear hx cx0 hBw HQ HR
                    by_cases hm : q = -1
                    · have hR : (6 : Int) = R := by have := HR2.out; rw [hm] at this; simpa using this
                      have g2 : decide (q < 0) = true := decide_eq_true (by omega)
                      subst hR
                      clear hm
                      go_wp2_with (go_at_call 78; refine hfi.mono ?_; rintro e W2 ⟨rfl, hb2⟩)
                      go_ret
                      exact ⟨rfl, (HN.out hb2).1⟩
                    · have HR3 : Hid ((if (namedI ((l.drop (j + 1)).map (fnd g.rules)) && named g.rules (g.rules.drop (i + 1))) then (0 : Int) else 6) = R) := by
                        have := HR2.out
                        rw [show (q != -1) = true from by simpa using hm, Bool.true_and] at this
                        exact this
                      have g2 : decide (q < 0) = false := decide_eq_false (by omega)
                      clear hm
                      go_wp2_with (go_at_call 78; refine hfi.mono ?_; rintro e W2 ⟨rfl, hb2⟩; have HB2 : Hid _ := (HN.out hb2).2; clear hb2)
                      exact ⟨⟨j + 1, by go_num, by omega, HR3, HB2.out⟩, by simp [intOf]; omega⟩
        · have hlt : i < g.rules.length := by omega
          clear hend
          obtain ⟨x, hx⟩ : ∃ x, g.rules[i]? = some x := ⟨_, List.getElem?_eq_getElem hlt⟩
          have hru := (HI.out.below HB.out).rule i x hx
          obtain ⟨b, o, ha, hb, c0, c1, c2, c3, c4, c5, c6, c7⟩ := rcells hru
          have HD : Hid (gfin g.rules (rulesChk g.rules i (x :: g.rules.drop (i + 1))) = R) := by
            rw [← drop_at _ _ _ hx]; exact HR.out
          have HDN : Hid (∀ c : Int, ruleChk g.rules i x = c → c ≠ 0 → c = R) := fun c h1 h2 => by
            have := HD.out
            rw [rulesChk_ne _ _ _ _ (by rw [h1]; exact h2), h1, gfin_ne _ _ h2] at this
            exact this
          have HDZ : Hid (ruleChk g.rules i x = 0 → gfin g.rules (rulesChk g.rules (i + 1) (g.rules.drop (i + 1))) = R) := fun h1 => by
            have := HD.out
            rw [rulesChk_next _ _ _ _ h1] at this
            exact this
          have hA := HB.out.alloc HB.out.size (.cells (rcell x).toArray 76)
          have bR := BoxN.new wr 76 (rcell x).toArray
          have HN : Hid (∀ {W}, Below (wr.alloc (.cells (rcell x).toArray 76)).heap.size (wr.alloc (.cells (rcell x).toArray 76)) W → Below w.heap.size w W ∧ BoxN W w.heap.size 24 #[.slice g.a g.rules.length g.c] ∧ BoxN W wr.heap.size 76 (rcell x).toArray) := fun h => ⟨hA.trans (h.mono hA.size), (HG.out.alloc _).below h (by have := HG.out.lt; simp; omega), bR.below h (by simp)⟩
          have HN2 : Hid (∀ {W W2 : World}, (Below w.heap.size w W ∧ BoxN W w.heap.size 24 #[.slice g.a g.rules.length g.c] ∧ BoxN W wr.heap.size 76 (rcell x).toArray) → Below W.heap.size W W2 → Below w.heap.size w W2 ∧ BoxN W2 w.heap.size 24 #[.slice g.a g.rules.length g.c] ∧ BoxN W2 wr.heap.size 76 (rcell x).toArray) := fun h hb => ⟨h.1.trans (hb.mono h.1.size), h.2.1.below hb h.2.1.lt, h.2.2.below hb h.2.2.lt⟩
          have hnm : ∀ W, _ := fun W => rname_any x.1 W hru.name
          have hfi := rfind_any g x.1 _ (HI.out.grow hA)
          have hex : ∀ W, Below w.heap.size w W → _ := fun W h => rexpr_any x.2 W (((HI.out.below h).rule i x hx).body.mono h.size)
          have hno : ∀ W, Below w.heap.size w W → _ := fun W h => rnodes_any x.2 W (((HI.out.below h).rule i x hx).body.mono h.size)
          have hfl := fnd_le g.rules i x hx
          have HGT : Hid (gcount (g.rules.take (i + 1)) = gcount (g.rules.take i) + sizeR x.2) := gcount_take _ _ _ hx
          have HKN : Hid (check x.2 = 0 → ∀ (j : Nat) (r : ByteArray × Ex), j < i + 1 → g.rules[j]? = some r → check r.2 = 0) := fun h j r hj hr => by
            by_cases hji : j = i
            · subst hji; rw [hx] at hr; cases hr; exact h
            · exact HK.out j r (by omega) hr
          have HSZ : Hid (check x.2 = 0 → ((rnodes x.2).length : Int) = sizeR x.2 ∧ (rnodes x.2).length ≤ 60) := fun h => by
            have := check_len x.2 h
            rw [rnodes_ok x.2 h]; unfold sizeR; rw [if_pos h]; exact ⟨rfl, this⟩
          have hpos := rnodes_pos x.2
          rw [val_eq] at hex hno
          rw [gval_eq] at hfi
          rw [rcell_eq] at HN HN2 hfi
          rw [ha] at *
          generalize gcount (g.rules.take i) = q at *
          have cG2 := (HN.out (Below.refl _ _)).2.1.cell 0
          simp only [List.getElem?_toArray, List.getElem?_cons_zero] at cG2
          clear hru hx HR HB HG HK hA bR hb HD
          unfold ruleChk at HDN HDZ
          cases hn : isName x.1.data.toList with
          | false =>
            have hR : (6 : Int) = R := HDN.out 6 (by rw [hn]; rfl) (by decide)
            subst hR
            rw [hn] at hnm
            clear HDN HDZ hn hfi hex hno
            go_wp2_with (go_at_call 97; refine (hnm _).mono ?_; rintro e W1 ⟨rfl, rfl⟩)
            go_ret
            exact ⟨rfl, (HN.out (Below.refl _ _)).1⟩
          | true =>
            rw [hn] at HDN HDZ
            rw [if_neg (by simp)] at HDN HDZ
            rw [hn] at hnm
            clear hn
            generalize hf : fnd g.rules x.1 = f at *
            by_cases hfi' : f = (i : Int)
            · rw [if_neg (by simpa using hfi')] at HDN HDZ
              subst hfi'
              clear hf hfl
              generalize hc : check x.2 = C at *
              by_cases hC : C = 0
              · subst hC
                have HD4 : Hid (gfin g.rules (rulesChk g.rules (i + 1) (g.rules.drop (i + 1))) = R) := HDZ.out rfl
                have HK2 := HKN.out rfl
                have HS2 := HSZ.out rfl
                generalize rnodes x.2 = ln at *
                clear HDN HDZ HKN HSZ hc
                have h60 := HS2.2
                go_wp2_with (first
                  | (go_at_call 97; refine (hnm _).mono ?_; rintro e W1 ⟨rfl, rfl⟩)
                  | (go_at_call 78; refine hfi.mono ?_; rintro e W2 ⟨rfl, hb2⟩; have k2 := HN.out hb2; have cR2 := k2.2.2.cell; clear hb2 hfi)
                  | (go_at_call 98; refine (hex _ k2.1).mono ?_; rintro e W3 ⟨rfl, hb3⟩; have k3 := HN2.out k2 hb3; have cR3 := k3.2.2.cell; clear hb3 hex)
                  | (go_at_call 40; refine (hno _ k3.1).mono ?_; rintro e W4 ⟨v4, rfl, hN4, hb4⟩; obtain ⟨g4, cap4, rfl, -, -⟩ := World.ownsRow.form hN4 hpos; have k4 := HN2.out k3 hb4; clear hb4 hno hN4))
                exact ⟨⟨i + 1, by rw [HGT.out, ← HS2.1], by go_num, by omega, HK2, HD4, k4.1, k4.2.1⟩, by simp [intOf]; omega⟩
              · have hR : C = R := HDN.out C rfl hC
                subst hR
                have g4 : (C != 0) = true := by simpa using hC
                have g5 : (C == 0) = false := by simpa using hC
                clear HDN HDZ HKN HSZ hc hno
                go_wp2_with (first
                  | (go_at_call 97; refine (hnm _).mono ?_; rintro e W1 ⟨rfl, rfl⟩)
                  | (go_at_call 78; refine hfi.mono ?_; rintro e W2 ⟨rfl, hb2⟩; have k2 := HN.out hb2; have cR2 := k2.2.2.cell; clear hb2 hfi)
                  | (go_at_call 98; refine (hex _ k3.1).mono ?_; rintro e W4 ⟨rfl, hb4⟩; have k4 := HN2.out k3 hb4)
                  | (go_at_call 98; refine (hex _ k2.1).mono ?_; rintro e W3 ⟨rfl, hb3⟩; have k3 := HN2.out k2 hb3; have cR3 := k3.2.2.cell; clear hb3))
                go_ret
                exact ⟨rfl, k4.1⟩
            · rw [if_pos hfi'] at HDN
              have hR : (7 : Int) = R := HDN.out 7 rfl (by decide)
              subst hR
              have g4 : decide (f < (i : Int)) = true := decide_eq_true (by omega)
              clear HDN HDZ hex hno
              go_wp2_with (first
                | (go_at_call 97; refine (hnm _).mono ?_; rintro e W1 ⟨rfl, rfl⟩)
                | (go_at_call 78; refine hfi.mono ?_; rintro e W2 ⟨rfl, hb2⟩; have k2 := HN.out hb2; clear hb2 hfi))
              go_ret
              exact ⟨rfl, k2.1⟩
end Go.Proofs.Ytokdaapmejccbaa
