import Derived.Test.YtbeohmcmphebhaaRch
import Derived.Lib.BufferMore
import Derived.Lib.BufferWrite
namespace Go.Proofs.Ytbeohmcmphebhaa
open Go.RowKit
set_option linter.unusedVariables false
theorem gr_refl (B : Nat) (w : World) : w.grownBy w (some B) := ⟨rfl, rfl, rfl, Nat.le_refl _, fun _ _ _ => rfl⟩
theorem gr_trans {B : Nat} {w w1 w2 : World} (h : w.grownBy w1 (some B)) (h2 : w1.grownBy w2 (some B)) : w.grownBy w2 (some B) :=
  ⟨h2.os.trans h.os, h2.tape.trans h.tape, h2.output.trans h.output, Nat.le_trans h.size h2.size, fun k hk hne => (h2.block k (Nat.lt_of_lt_of_le hk h.size) hne).trans (h.block k hk hne)⟩
theorem gr_alloc {B : Nat} {w w1 : World} (h : w.grownBy w1 (some B)) (o : Obj) : w.grownBy (w1.alloc o) (some B) :=
  ⟨h.os, h.tape, h.output, Nat.le_trans h.size (by simp), fun k hk hne => (Below.heap_alloc w1 o k (Nat.lt_of_lt_of_le hk h.size)).trans (h.block k hk hne)⟩
theorem gr_below {B : Nat} {w w1 w2 : World} (h : w.grownBy w1 (some B)) (hb : Below w1.heap.size w1 w2) : w.grownBy w2 (some B) :=
  ⟨hb.os.trans h.os, hb.tape.trans h.tape, hb.output.trans h.output, Nat.le_trans h.size hb.size, fun k hk hne => (hb.block k (Nat.lt_of_lt_of_le hk h.size)).trans (h.block k hk hne)⟩
/-- Marks in memory. -/
def mcs (m : List Bool) : Array Value := (m.map Value.bool).toArray
def Mk (W : World) (B : Nat) (m : List Bool) : Prop := BoxN W B 4 (mcs m)
theorem Mk.cell {W : World} {B : Nat} {m : List Bool} (h : Mk W B m) {i : Nat} {b : Bool} (hb : m[i]? = some b) : W.cell? ⟨B, i, none⟩ = some (.bool b) := by
  rw [BoxN.cell h]; simp [mcs, hb]
theorem Mk.frozen {W : World} {B : Nat} {m : List Bool} (h : Mk W B m) (i : Nat) : W.frozen? ⟨B, i, none⟩ = false := by
  simp [World.frozen?, show W.heap[B]? = _ from h]
theorem Mk.set {W : World} {B : Nat} {m : List Bool} (h : Mk W B m) (i : Nat) : Mk (W.setCell ⟨B, i, none⟩ (.bool true)) B (m.set i true) := by
  have := Go.Lib.heap_setCell_same (w := W) (b := B) (i := i) h (.bool true)
  unfold Mk BoxN
  rw [this]
  rw [show (mcs m).setIfInBounds i (.bool true) = mcs (m.set i true) from by unfold mcs; simp [List.map_set]]
/-- The grammar's blocks stay, B apart. -/
theorem Gr.In.gr {n B : Nat} {A W : World} {g : Gr} (h : g.In n A) (hg : A.grownBy W (some B)) (hn : n ≤ A.heap.size) (hB : n ≤ B) : g.In n W :=
  h.below ⟨hg.os, hg.tape, hg.output, hg.size, fun k hk => hg.block k (Nat.lt_of_lt_of_le hk hn) (fun e => by cases e; omega)⟩
theorem Mk.lt {W : World} {B : Nat} {m : List Bool} (h : Mk W B m) : B < W.heap.size := BoxN.lt h
theorem bool_of {m : List Bool} {i : Nat} (h : i < m.length) : ∃ b, m[i]? = some b := ⟨_, List.getElem?_eq_getElem h⟩
set_option maxRecDepth 20000 in
set_option maxHeartbeats 4000000 in
theorem comeTo_any (g : Gr) (hok : GOk g.rules) (B n₀ : Nat) (hB : n₀ ≤ B) : ∀ (N : Nat) (m : List Bool) (i : Nat) (w : World), cntF m ≤ N → m.length = g.rules.length → i < g.rules.length → g.In n₀ w → Mk w B m →
    Calls Try.prog 26 #[g.val, .int .i64 i, .slice (some ⟨B, 0, none⟩) g.rules.length g.rules.length] w fun e W' => e = .returned (.tuple #[]) ∧ ∃ m', CT (nxt g.rules) i m m' ∧ Mk W' B m' ∧ w.grownBy W' (some B) := by
  intro N
  induction N with
  | zero =>
    intro m i w hN hm hi hin hM
    obtain ⟨b, hb⟩ := bool_of (m := m) (i := i) (by omega)
    have hbt : b = true := by
      cases b with
      | true => rfl
      | false => have := cntF_set m i hb; omega
    subst hbt
    have hM1 := BoxN.alloc hM (.cells #[.slice g.a g.rules.length g.c] 24)
    have c := Mk.cell hM1 hb
    have hg := gr_alloc (gr_refl B w) (.cells #[.slice g.a g.rules.length g.c] 24)
    rw [gval_eq]
    go_enter Try.func26, Try.ntmps26
    go_wp2_with fail
    refine bodyPost_ret (results_none rfl _ _ _) rfl ⟨rfl, m, CT.same hb, hM1, hg⟩
  | succ N ih =>
    intro m i w hN hm hi hin hM
    obtain ⟨b, hb⟩ := bool_of (m := m) (i := i) (by omega)
    have hM1 := BoxN.alloc hM (.cells #[.slice g.a g.rules.length g.c] 24)
    have c := Mk.cell hM1 hb
    have hg := gr_alloc (gr_refl B w) (.cells #[.slice g.a g.rules.length g.c] 24)
    have hlen := hin.len
    cases b with
    | true =>
      rw [gval_eq]
      go_enter Try.func26, Try.ntmps26
      go_wp2_with fail
      refine bodyPost_ret (results_none rfl _ _ _) rfl ⟨rfl, m, CT.same hb, hM1, hg⟩
    | false =>
      have fz := Mk.frozen hM1 i
      have hM2 := Mk.set hM1 i
      have hg2 : w.grownBy ((w.alloc (.cells #[.slice g.a g.rules.length g.c] 24)).setCell ⟨B, i, none⟩ (.bool true)) (some B) := gr_trans hg (Go.Lib.grownBy_setCell _ _ _ _)
      have hBw : B < w.heap.size := hM.lt
      have bG : BoxN ((w.alloc (.cells #[.slice g.a g.rules.length g.c] 24)).setCell ⟨B, i, none⟩ (.bool true)) w.heap.size 24 #[.slice g.a g.rules.length g.c] := (BoxN.new w 24 #[.slice g.a g.rules.length g.c]).kept (Go.Lib.grownBy_setCell _ _ _ _) (fun e => by cases e; omega)
      have hin2 : g.In n₀ _ := hin.gr hg2 (by omega) hB
      have hN2 : cntF (m.set i true) ≤ N := by have := cntF_set m i hb; omega
      obtain ⟨r, hr⟩ : ∃ r, g.rules[i]? = some r := ⟨_, List.getElem?_eq_getElem hi⟩
      have hri := rulesIn_any g i r hr _ (hin2.mono (Nat.le_trans hB (Nat.le_of_lt hM2.lt)))
      rw [insR_nxt hok hr] at hri
      have hnl : (nxt g.rules i).length ≤ 60 := by
        rw [nxt_at hr, List.length_map]; exact insR_len _ _
      have HX : Hid (∀ k ∈ nxt g.rules i, k < g.rules.length) := fun k hk => nxt_lt hok i k hk
      have HM : Hid (CL (nxt g.rules) i 0 (m.set i true) (m.set i true)) := CL.start _ _ _
      have HF : Hid (∀ m', CL (nxt g.rules) i (nxt g.rules i).length (m.set i true) m' → CT (nxt g.rules) i m m') := fun m' h => CL.fin (by omega) h
      have hms : (m.set i true).length = g.rules.length := by simpa using hm
      have hal : (w.alloc (.cells #[.slice g.a g.rules.length g.c] 24)).heap.size = w.heap.size + 1 := by simp
      generalize hW2 : (w.alloc (.cells #[.slice g.a g.rules.length g.c] 24)).setCell ⟨B, i, none⟩ (.bool true) = W2 at *
      have hs2 : W2.heap.size = w.heap.size + 1 := by rw [← hW2]; simp
      generalize m.set i true = m0 at *
      rw [gval_eq] at hri ⊢
      have H2 : Hid (w.grownBy W2 (some B) ∧ BoxN W2 w.heap.size 24 #[.slice g.a g.rules.length g.c] ∧ Mk W2 B m0 ∧ g.In n₀ W2) := ⟨hg2, bG, hM2, hin2⟩
      have cG := bG.cell 0
      simp only [List.getElem?_toArray, List.getElem?_cons_zero] at cG
      have ih' : ∀ (m : List Bool) (i : Nat) (w : World), cntF m ≤ N → m.length = g.rules.length → i < g.rules.length → g.In n₀ w → Mk w B m → _ := ih
      rw [gval_eq] at ih'
      clear ih hg2 bG hM2 hin2 hM hg hin hr hal hb
      go_enter Try.func26, Try.ntmps26
      go_wp2_with (first
        | ((try rw [hW2]); go_at_call 33; refine hri.mono ?_; rintro e W3 ⟨v, rfl, hS3, hb3⟩; obtain ⟨a3, c3, rfl⟩ := hS3.form; have H3 : Hid (Is W3 W2.heap.size (.slice a3 _ c3) _ ∧ Below W2.heap.size W2 W3) := ⟨hS3, hb3⟩; clear hS3 hb3 hri))
      have hnl' : ((nxt g.rules i).map fun k : Nat => (k : Int)).length = (nxt g.rules i).length := List.length_map _
      rw [hnl'] at H3
      go_loopw [19] (fun p wr => ∃ (t : Nat) (mt : List Bool), p = .int .i64 t ∧ t ≤ (nxt g.rules i).length ∧ Hid (CL (nxt g.rules) i t m0 mt ∧ Mk wr B mt ∧ W3.grownBy wr (some B))) (fun p _ => (nxt g.rules i).length - (intOf p).toNat)
      case atStart => exact ⟨0, m0, rfl, Nat.zero_le _, HM.out, BoxN.below H2.out.2.2.1 H3.out.2 H2.out.2.2.1.lt, gr_refl _ _⟩
      case round =>
        obtain ⟨t, mt, rfl, ht, HQ⟩ := hrel
        have hw : w.grownBy W3 (some B) := gr_below H2.out.1 H3.out.2
        by_cases hend : t = (nxt g.rules i).length
        · have g1 : decide (t < (nxt g.rules i).length) = false := by simp; omega
          have hct := HF.out mt (by rw [← hend]; exact HQ.out.1)
          have hM' := HQ.out.2.1
          have hgf := gr_trans hw HQ.out.2.2
          clear hend
          go_wp2_with fail
          go_end0
          exact ⟨rfl, mt, hct, hM', hgf⟩
        · have htl : t < (nxt g.rules i).length := by omega
          clear hend
          obtain ⟨k, hk⟩ : ∃ k, (nxt g.rules i)[t]? = some k := ⟨_, List.getElem?_eq_getElem htl⟩
          obtain ⟨gs, cps, hve, hgs, hgl, cx0⟩ := Is.at H3.out.1 (i := t) (x := (k : Int)) (by rw [List.getElem?_map, hk]; rfl)
          rw [hnl'] at hve
          cases hve
          have cx : wr.cell? ⟨gs, t, none⟩ = some (.int .i64 (k : Int)) := (World.cell?_of_block (w := W3) (HQ.out.2.2.block gs hgl (fun e => by cases e; omega))).trans cx0
          have bG := (H2.out.2.1.below H3.out.2 H2.out.2.1.lt).kept HQ.out.2.2 (fun e => by cases e; omega)
          have cG4 := bG.cell 0
          simp only [List.getElem?_toArray, List.getElem?_cons_zero] at cG4
          have hin3 : g.In n₀ W3 := H2.out.2.2.2.below (H3.out.2.mono (by omega))
          have hs3 := H3.out.2.size
          have hin4 := hin3.gr HQ.out.2.2 (by omega) hB
          have hle := HQ.out.1.le
          have hcnt := cntF_le _ _ hle
          have hkl := HX.out k (List.mem_of_getElem? hk)
          have hcall := ih' mt k wr (by omega) (by rw [hle.1]; exact hms) hkl hin4 HQ.out.2.1
          have HN : Hid (∀ {m' W}, CT (nxt g.rules) k mt m' → Mk W B m' → wr.grownBy W (some B) → CL (nxt g.rules) i (t + 1) m0 m' ∧ Mk W B m' ∧ W3.grownBy W (some B)) := fun h1 h2 h3 => ⟨HQ.out.1.next hk h1, h2, gr_trans HQ.out.2.2 h3⟩
          clear hk hgs hgl cx0 bG hin3 hs3 hin4 hle hcnt HQ hw
          go_wp2_with (go_at_call 26; refine hcall.mono ?_; rintro e W5 ⟨rfl, m', h1, h2, h3⟩; have H5 : Hid _ := HN.out h1 h2 h3; clear h1 h2 h3 hcall)
          exact ⟨⟨t + 1, m', by go_num, by omega, H5⟩, by simp [intOf]; omega⟩
end Go.Proofs.Ytbeohmcmphebhaa
