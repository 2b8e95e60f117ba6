import Derived.Test.YtbeohmcmphebhaaReach
namespace Go.Proofs.Ytbeohmcmphebhaa
open Go.RowKit
set_option linter.unusedVariables false
theorem gr_from {n B : Nat} {w w1 w2 : World} (h : Below n w w1) (hg : w1.grownBy w2 (some B)) (hB : n ≤ B) (hn : n ≤ w1.heap.size) : Below n w w2 :=
  h.trans ⟨hg.os, hg.tape, hg.output, hg.size, fun k hk => hg.block k (by omega) (fun e => by cases e; omega)⟩
theorem nxt_len {all : List (ByteArray × Ex)} {i : Nat} {r : ByteArray × Ex} (h : all[i]? = some r) : (nxt all i).length = (refsR r.2).length := by
  rw [nxt_at h]; unfold insR; simp
theorem nxt_get {all : List (ByteArray × Ex)} (hok : GOk all) {i t : Nat} {r : ByteArray × Ex} {s : ByteArray} (h : all[i]? = some r) (hs : (refsR r.2)[t]? = some s) : ∃ k : Nat, (nxt all i)[t]? = some k ∧ fnd all s = (k : Int) ∧ k < all.length := by
  obtain ⟨k, hk, hl⟩ := hok.names i r h (fnd all s) (List.mem_map.2 ⟨s, List.mem_of_getElem? hs, rfl⟩)
  refine ⟨k, ?_, hk, hl⟩
  rw [nxt_at h]; unfold insR
  rw [List.map_map, List.getElem?_map, hs]
  simp [hk]
set_option maxRecDepth 20000 in
set_option maxHeartbeats 8000000 in
theorem rreach_any (g : Gr) (hok : GOk g.rules) (w : World) (hin : g.In w.heap.size w) :
    Calls Try.prog 15 #[g.val] w fun r W' => ∃ B m, r = .returned (.slice (some ⟨B, 0, none⟩) g.rules.length g.rules.length) ∧ w.heap.size ≤ B ∧ Mk W' B m ∧ IsR (nxt g.rules) g.rules.length m ∧ Below w.heap.size w W' := by
  have h10 := hok.most
  have h1 := hok.pos
  have hmk : ∀ W, _ := fun W => make_marks g.rules.length h10 W
  obtain ⟨W1, hW1⟩ : ∃ W1, W1 = ((w.alloc (.cells #[.slice g.a g.rules.length g.c] 24)).alloc (.cells (mcs (List.replicate g.rules.length false)) 4)).setCell ⟨w.heap.size + 1, 0, none⟩ (.bool true) := ⟨_, rfl⟩
  have hM0 := BoxN.new (w.alloc (.cells #[.slice g.a g.rules.length g.c] 24)) 4 (mcs (List.replicate g.rules.length false))
  rw [World.size_alloc] at hM0
  have fz := Mk.frozen hM0 0
  have c00 := Mk.cell (i := 0) (b := false) hM0 (by simp [h1])
  have hM1 : Mk W1 (w.heap.size + 1) ((List.replicate g.rules.length false).set 0 true) := by rw [hW1]; exact Mk.set hM0 0
  have bG1 : BoxN W1 w.heap.size 24 #[.slice g.a g.rules.length g.c] := by
    rw [hW1]
    exact ((BoxN.new w 24 #[.slice g.a g.rules.length g.c]).alloc _).kept (Go.Lib.grownBy_setCell _ _ _ _) (by simp)
  have hB1 : Below w.heap.size w W1 := by
    rw [hW1]
    exact (((Below.refl _ w).alloc (Nat.le_refl _) _).alloc (by simp) _).setCell (by simp) _
  have HI : Hid (g.In w.heap.size w) := hin
  have HP : Hid (RP (nxt g.rules) g.rules.length 0 ((List.replicate g.rules.length false).set 0 true)) := RP.start _ _ h1
  have HO : Hid (GOk g.rules) := hok
  rw [gval_eq]
  have cG1 := bG1.cell 0
  simp only [List.getElem?_toArray, List.getElem?_cons_zero] at cG1
  have H1 : Hid (Mk W1 (w.heap.size + 1) ((List.replicate g.rules.length false).set 0 true) ∧ BoxN W1 w.heap.size 24 #[.slice g.a g.rules.length g.c] ∧ Below w.heap.size w W1) := ⟨hM1, bG1, hB1⟩
  have hW1' := hW1.symm
  clear hin hok hM0 hM1 bG1 hB1 hW1
  go_enter Try.func15, Try.ntmps15
  go_wp2_with fail
  clear fz c00 hmk cG1 hW1'
  go_loopw [17] (fun p wr => ∃ (t : Nat) (ms : List Bool), p = .int .i64 t ∧ t ≤ g.rules.length ∧ Hid (RP (nxt g.rules) g.rules.length t ms ∧ Mk wr (w.heap.size + 1) ms ∧ BoxN wr w.heap.size 24 #[.slice g.a g.rules.length g.c] ∧ Below w.heap.size w wr)) (fun p _ => g.rules.length - (intOf p).toNat)
  case atStart => exact ⟨0, _, rfl, Nat.zero_le _, HP.out, H1.out⟩
  case round =>
    clear HP H1
    obtain ⟨t, ms, rfl, ht, HQ⟩ := hrel
    by_cases hend : t = g.rules.length
    · have g1 : decide (t < g.rules.length) = false := by simp; omega
      have HR : Hid (IsR (nxt g.rules) g.rules.length ms) := RP.isR (by rw [← hend]; have := HQ.out.1; rw [← hend] at this; exact this)
      clear hend
      go_wp2_with fail
      go_ret
      exact ⟨_, ms, rfl, Nat.le_succ _, HQ.out.2.1, HR.out, HQ.out.2.2.2⟩
    · have htl : t < g.rules.length := by omega
      clear hend
      have cG := HQ.out.2.2.1.cell 0
      simp only [List.getElem?_toArray, List.getElem?_cons_zero] at cG
      have HL0 : Hid (RL (nxt g.rules) ms 0 0 ms) := RL.start HQ.out.1.sound
      have hml : ms.length = g.rules.length := HQ.out.1.len
      have HP : Hid (∀ m, RL (nxt g.rules) ms g.rules.length 0 m → RP (nxt g.rules) g.rules.length (t + 1) m) := fun m h => HQ.out.1.next h
      have H1 : Hid (Mk wr (w.heap.size + 1) ms ∧ BoxN wr w.heap.size 24 #[.slice g.a g.rules.length g.c] ∧ Below w.heap.size w wr) := HQ.out.2
      clear HQ
      go_wp2_with fail
      clear cG
      go_loopw [22] (fun p wr => ∃ (i : Nat) (m : List Bool), p = .int .i64 i ∧ i ≤ g.rules.length ∧ Hid (RL (nxt g.rules) ms i 0 m ∧ Mk wr (w.heap.size + 1) m ∧ BoxN wr w.heap.size 24 #[.slice g.a g.rules.length g.c] ∧ Below w.heap.size w wr)) (fun p _ => g.rules.length - (intOf p).toNat)
      case atStart => exact ⟨0, ms, rfl, Nat.zero_le _, HL0.out, H1.out⟩
      case round =>
        clear HL0 H1
        obtain ⟨i, m, rfl, hi, HQ⟩ := hrel
        by_cases hend : i = g.rules.length
        · have g1 : decide (i < g.rules.length) = false := by simp; omega
          have HR : Hid (RP (nxt g.rules) g.rules.length (t + 1) m) := HP.out m (by have := HQ.out.1; rw [hend] at this; exact this)
          clear hend
          go_wp2_with fail
          exact ⟨⟨t + 1, m, by go_num, by omega, HR.out, HQ.out.2⟩, by simp [intOf]; omega⟩
        · have hil : i < g.rules.length := by omega
          clear hend
          obtain ⟨x, hx⟩ : ∃ x, g.rules[i]? = some x := ⟨_, List.getElem?_eq_getElem hil⟩
          have hru := (HI.out.below HQ.out.2.2.2).rule i x hx
          obtain ⟨b, o, ha, hb, c0, c1, c2, c3, c4, c5, c6, c7⟩ := rcells hru
          have hsz := HQ.out.2.2.2.size
          have hMlt := HQ.out.2.1.lt
          have hrr := rrefs_any x.2 _ ((hru.body.mono hsz).grow ((Below.refl _ wr).alloc (Nat.le_refl _) (.cells (rcell x).toArray 48)))
          rw [refs_same x.2 (ruleChk_zero (HO.out.rules i x hx)).2.2] at hrr
          have hA := HQ.out.2.2.2.alloc hsz (.cells (rcell x).toArray 48)
          have HN : Hid (∀ {W}, Below (wr.alloc (.cells (rcell x).toArray 48)).heap.size (wr.alloc (.cells (rcell x).toArray 48)) W → Below w.heap.size w W ∧ BoxN W w.heap.size 24 #[.slice g.a g.rules.length g.c] ∧ Mk W (w.heap.size + 1) m ∧ wr.heap.size ≤ W.heap.size) := fun h =>
            ⟨hA.trans (h.mono hA.size), (HQ.out.2.2.1.alloc _).below h (by simp; omega), BoxN.below (BoxN.alloc HQ.out.2.1 _) h (by simp; omega), by have := h.size; simp at this; omega⟩
          have HX : Hid (∀ (q : Nat) (s : ByteArray), (refsR x.2)[q]? = some s → ∃ k : Nat, (nxt g.rules i)[q]? = some k ∧ fnd g.rules s = (k : Int) ∧ k < g.rules.length) := fun q s hs => nxt_get HO.out hx hs
          have hnl : (refsR x.2).length ≤ 60 := refsR_len _
          have HNL : Hid ((nxt g.rules i).length = (refsR x.2).length) := nxt_len hx
          have HR0 : Hid (RL (nxt g.rules) ms i 0 m) := HQ.out.1
          rw [val_eq] at hrr
          rw [rcell_eq] at hrr HN
          generalize refsR x.2 = l at *
          rw [ha]
          clear hx hru hb hA HQ
          go_wp2_with (go_at_call 25; refine hrr.mono ?_; rintro e W2 ⟨v, rfl, hS2, hb2⟩; obtain ⟨a2, cp2, rfl⟩ := hS2.form; have HS2 : Hid _ := hS2; have k2 : Hid _ := HN.out hb2; clear hb2 hrr hS2 HN c0 c1 c2 c3 c4 c5 c6 c7)
          go_loopw [31] (fun p wq => ∃ (q : Nat) (mq : List Bool), p = .int .i64 q ∧ q ≤ l.length ∧ Hid (RL (nxt g.rules) ms i q mq ∧ Mk wq (w.heap.size + 1) mq ∧ W2.grownBy wq (some (w.heap.size + 1)))) (fun p _ => l.length - (intOf p).toNat)
          case atStart => exact ⟨0, m, rfl, Nat.zero_le _, HR0.out, k2.out.2.2.1, gr_refl _ _⟩
          case round =>
            clear HR0
            obtain ⟨q, mq, rfl, hq, HQ⟩ := hrel
            have hs2 := k2.out.1.size
            have hBw : Below w.heap.size w wr := gr_from k2.out.1 HQ.out.2.2 (by omega) (by omega)
            have bG := k2.out.2.1.kept HQ.out.2.2 (by simp)
            by_cases hend : q = l.length
            · have g1 : decide (q < l.length) = false := by simp; omega
              have HE : Hid (RL (nxt g.rules) ms (i + 1) 0 mq ∧ Mk wr (w.heap.size + 1) mq ∧ BoxN wr w.heap.size 24 #[.slice g.a g.rules.length g.c] ∧ Below w.heap.size w wr) := ⟨RL.rule (by rw [HNL.out, ← hend]; exact HQ.out.1), HQ.out.2.1, bG, hBw⟩
              clear hend bG hBw
              go_wp2_with fail
              exact ⟨⟨i + 1, mq, by go_num, by omega, by rw [ha] at HE; exact HE⟩, by simp [intOf]; omega⟩
            · have hql : q < l.length := by omega
              clear hend
              obtain ⟨s, hs⟩ : ∃ s, l[q]? = some s := ⟨_, List.getElem?_eq_getElem hql⟩
              obtain ⟨k, hk, hfk, hkl⟩ := HX.out q s hs
              obtain ⟨gs, cps, hve, hgs, hgl, cx0⟩ := Ss.at HS2.out hs
              cases hve
              have hgs' : w.heap.size + 1 < gs := by simp at hgs; omega
              have cx : wr.cell? ⟨gs, q, none⟩ = some (.string s) := (World.cell?_of_block (w := W2) (HQ.out.2.2.block gs hgl (fun e => by cases e; omega))).trans cx0
              have cG := bG.cell 0
              simp only [List.getElem?_toArray, List.getElem?_cons_zero] at cG
              have hmql : mq.length = g.rules.length := HQ.out.1.le.1.trans hml
              obtain ⟨bi, hbi⟩ := bool_of (m := mq) (i := i) (by omega)
              have cbi := Mk.cell HQ.out.2.1 hbi
              have hfi := rfind_any g s wr (HI.out.grow hBw)
              rw [gval_eq, hfk, ha] at hfi
              rw [ha] at cG
              clear hs cx0 bG hfk
              cases bi with
              | true =>
                obtain ⟨bk, hbk⟩ := bool_of (m := mq) (i := k) (by omega)
                have HM : Hid (∀ {W}, Below wr.heap.size wr W → Mk W (w.heap.size + 1) mq ∧ W2.grownBy W (some (w.heap.size + 1))) := fun h => ⟨BoxN.below HQ.out.2.1 h HQ.out.2.1.lt, gr_below HQ.out.2.2 h⟩
                have HR : Hid (RL (nxt g.rules) ms i (q + 1) (mq.set k true)) := HQ.out.1.mark hbi hk (by omega)
                clear HQ hbi
                go_wp2_with (go_at_call 10; refine hfi.mono ?_; rintro e W3 ⟨rfl, hb3⟩; have k3 := HM.out hb3; have c3 := Mk.cell k3.1 hbk; have f3 := Mk.frozen k3.1 k; clear hb3 hfi)
                exact ⟨⟨q + 1, mq.set k true, by go_num, by omega, HR.out, Mk.set k3.1 k, gr_trans k3.2 (Go.Lib.grownBy_setCell _ _ _ _)⟩, by simp [intOf]; omega⟩
              | false =>
                have HR : Hid (RL (nxt g.rules) ms i (q + 1) mq) := HQ.out.1.skip (by rw [hbi]; simp)
                clear hfi hbi
                go_wp2_with fail
                exact ⟨⟨q + 1, mq, by go_num, by omega, HR.out, HQ.out.2⟩, by simp [intOf]; omega⟩
end Go.Proofs.Ytbeohmcmphebhaa
