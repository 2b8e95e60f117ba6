import Derived.Test.YtokdaapmejccbaaIsWell
import Derived.Laws.MakeOwn
import Derived.Deep.LoopGhost
import Derived.WalkKit
import Derived.Below
import Derived.Deep.QuietTactic
import Derived.BigQuiet
import Derived.BigRegion
namespace Go.Proofs.Ytokdaapmejccbaa
open Go.RowKit
set_option linter.unusedVariables false
set_option linter.unusedSimpArgs false
theorem Try.info4 : (Try.prog.info? 4).map (fun i => (i.zero, i.size, i.bytes)) = some (some (.bool false), 1, 1) := by kernel_rfl
theorem made_bool (n : Nat) : madeCells (Value.bool false).cells (n * 1) = mcs (List.replicate n false) := by
  unfold madeCells mcs
  refine Array.ext (by simp) fun i h1 h2 => ?_
  simp [Value.cells, Nat.mod_one]
theorem make_marks (n : Nat) (hn : n ≤ 10) (w : World) : (Instr.makeSlice 110 (.int .i64 (n : Int)) (.int .i64 (n : Int))).run Try.prog w = .ok (.slice (some ⟨w.heap.size, 0, none⟩) n n) (w.alloc (.cells (mcs (List.replicate n false)) 4)) := by
  obtain ⟨i0, hi, hz⟩ : ∃ i0, Try.prog.info? 4 = some i0 ∧ (i0.zero, i0.size, i0.bytes) = (some (.bool false), 1, 1) := by
    simpa [Option.map_eq_some_iff] using Try.info4
  simp only [Prod.mk.injEq] at hz
  obtain ⟨hz0, hz1, hz2⟩ := hz
  have := run_makeSlice (P := Try.prog) w 110 4 i0 (.bool false) Try.underlying110 hi hz0 .i64 .i64 n n (by omega) (by omega) (by rw [hz1]; simp; omega) (by rw [hz2]; omega) (by omega)
  rw [hz1] at this
  simp only [Int.toNat_natCast] at this
  rw [made_bool] at this
  exact this
theorem Mk.put {W : World} {B : Nat} {m : List Bool} (h : Mk W B m) (i : Nat) (b : Bool) : Mk (W.setCell ⟨B, i, none⟩ (.bool b)) B (m.set i b) := by
  have := Go.Lib.heap_setCell_same (w := W) (b := B) (i := i) h (.bool b)
  unfold Mk BoxN
  rw [this]
  rw [show (mcs m).setIfInBounds i (.bool b) = mcs (m.set i b) from by unfold mcs; simp [List.map_set]]
set_option maxRecDepth 20000 in
set_option maxHeartbeats 4000000 in
theorem byNameB_any (g : Gr) (ka : Option Addr) (kn kc : Nat) (w : World) : Calls Try.prog 84 #[.agg #[.slice g.a g.rules.length g.c], .slice ka kn kc] w fun r W' => r = .returned (ofb (w.heap.size + 1) w.heap.size) ∧ W' = (w.alloc (.cells #[.slice g.a g.rules.length g.c] 24)).alloc (.cells #[.slice ka kn kc] 110) := by
  have hmf : ∀ (fn : Fn) (first cap : Array Value) (w : World), (Instr.makeFunc fn first cap).run Try.prog w = .ok (.func fn first cap) w := fun _ _ _ _ => rfl
  unfold ofb
  go_enter Try.func84, Try.ntmps84
  go_wp2_with fail
  go_ret
  exact ⟨rfl, rfl⟩
/-- What grow keeps, of marks. -/
structure Gb (w : World) (g : Gr) (l : List Bool) (W : World) : Prop where
  bel : Below w.heap.size w W
  b0 : BoxN W w.heap.size 24 #[.slice g.a g.rules.length g.c]
  x : Mk W (w.heap.size + 1) l
  bg : BoxN W (w.heap.size + 1 + 1) 24 #[.slice g.a g.rules.length g.c]
  bk : BoxN W (w.heap.size + 1 + 1 + 1) 110 #[.slice (some ⟨w.heap.size + 1, 0, none⟩) g.rules.length g.rules.length]
theorem Gb.step {w : World} {g : Gr} {l : List Bool} {W W' : World} (h : Gb w g l W) (hb : Below W.heap.size W W') : Gb w g l W' :=
  ⟨h.bel.trans (hb.mono h.bel.size), h.b0.below hb h.b0.lt, BoxN.below h.x hb h.x.lt, h.bg.below hb h.bg.lt, h.bk.below hb h.bk.lt⟩
theorem Gb.drewN {w : World} {g : Gr} {l : List Bool} {W : World} (h : Gb w g l W) (n : Nat) : Gb w g l (W.drewN n) := h.step ⟨rfl, rfl, rfl, Nat.le_refl _, fun _ _ => rfl⟩
theorem Gb.kn {w : World} {g : Gr} {l : List Bool} {W : World} (h : Gb w g l W) (hin : g.In w.heap.size w) (hl : l.length = g.rules.length) : Kw2 (w.heap.size + 1 + 1 + 1 + 1) W g l (w.heap.size + 1 + 1 + 1) (w.heap.size + 1 + 1) (w.heap.size + 1) :=
  ⟨by omega, by omega, by omega, by have := h.bk.lt; omega, hl, h.bk, h.bg, h.x, (hin.below h.bel).mono (by omega)⟩
theorem Gb.set {w : World} {g : Gr} {l : List Bool} {W : World} (h : Gb w g l W) (i : Nat) (f : Bool) : Gb w g (l.set i f) (W.setCell ⟨w.heap.size + 1, i, none⟩ (.bool f)) := by
  have kb : ∀ (W : World) (o : Nat) (v : Value) (B : Nat) (t : TypeId) (cs : Array Value), B ≠ w.heap.size + 1 → BoxN W B t cs → BoxN (W.setCell ⟨w.heap.size + 1, o, none⟩ v) B t cs := fun W o v B t cs hne hb => hb.kept (Go.Lib.grownBy_setCell _ _ _ _) (fun e => hne (Option.some.inj e))
  exact ⟨h.bel.setCell (by simp) _, kb _ _ _ _ _ _ (by omega) h.b0, h.x.put i f, kb _ _ _ _ _ _ (by omega) h.bg, kb _ _ _ _ _ _ (by omega) h.bk⟩
theorem Gb.new (w : World) (g : Gr) : Gb w g (List.replicate g.rules.length false) ((((w.alloc (.cells #[.slice g.a g.rules.length g.c] 24)).alloc (.cells (mcs (List.replicate g.rules.length false)) 4)).alloc (.cells #[.slice g.a g.rules.length g.c] 24)).alloc (.cells #[.slice (some ⟨w.heap.size + 1, 0, none⟩) g.rules.length g.rules.length] 110)) := by
  have h1 := BoxN.new (w.alloc (.cells #[.slice g.a g.rules.length g.c] 24)) 4 (mcs (List.replicate g.rules.length false))
  rw [World.size_alloc] at h1
  have h2 := BoxN.new ((w.alloc (.cells #[.slice g.a g.rules.length g.c] 24)).alloc (.cells (mcs (List.replicate g.rules.length false)) 4)) 24 #[.slice g.a g.rules.length g.c]
  have h3 := BoxN.new (((w.alloc (.cells #[.slice g.a g.rules.length g.c] 24)).alloc (.cells (mcs (List.replicate g.rules.length false)) 4)).alloc (.cells #[.slice g.a g.rules.length g.c] 24)) 110 #[.slice (some ⟨w.heap.size + 1, 0, none⟩) g.rules.length g.rules.length]
  rw [World.size_alloc, World.size_alloc] at h2
  rw [World.size_alloc, World.size_alloc, World.size_alloc] at h3
  exact ⟨((((Below.refl _ w).alloc (Nat.le_refl _) _).alloc (by simp) _).alloc (by simp; omega) _).alloc (by simp; omega) _, (((BoxN.new w 24 _).alloc _).alloc _).alloc _, (h1.alloc _).alloc _, h2.alloc _, h3⟩
/-- What grow answers, of marks. -/
structure GrowB (g : Gr) (mb : Ex → Bool) (w : World) (r : Ending) (W' : World) : Prop where
  out : ∃ B m, r = .returned (.slice (some ⟨B, 0, none⟩) g.rules.length g.rules.length) ∧ w.heap.size ≤ B ∧ Mk W' B m ∧ Least bLe g.rules.length (wst g.rules mb) m ∧ Below w.heap.size w W'
set_option maxRecDepth 20000 in
set_option maxHeartbeats 8000000 in
theorem growB_any (g : Gr) (hok : GOk g.rules) (lf : List Fa) (kb gb K m ob mo : Nat) (w : World) (hin : g.In w.heap.size w) (hE : Em m w g lf kb gb K ob) (hMo : BoxN w mo 108 #[mbv ob]) :
    Calls Try.prog 55 #[g.val, .func (.func 56) #[] #[.pointer (some ⟨mo, 0, none⟩)]] w (GrowB g (mbF g lf) w) := by
  have HG : Hid (∀ r W', (∃ B m, r = .returned (.slice (some ⟨B, 0, none⟩) g.rules.length g.rules.length) ∧ w.heap.size ≤ B ∧ Mk W' B m ∧ Least bLe g.rules.length (wst g.rules (mbF g lf)) m ∧ Below w.heap.size w W') → GrowB g (mbF g lf) w r W') := fun r W' h => ⟨h⟩
  generalize GrowB g (mbF g lf) w = PP at *
  have h10 := hok.most
  have hmk : ∀ W, _ := fun W => make_marks g.rules.length h10 W
  have hbn := byNameB_any g (some ⟨w.heap.size + 1, 0, none⟩) g.rules.length g.rules.length ((w.alloc (.cells #[.slice g.a g.rules.length g.c] 24)).alloc (.cells (mcs (List.replicate g.rules.length false)) 4))
  rw [show ((w.alloc (.cells #[.slice g.a g.rules.length g.c] 24)).alloc (.cells (mcs (List.replicate g.rules.length false)) 4)).heap.size = w.heap.size + 1 + 1 from by simp] at hbn
  have hG0 : Hid _ := Gb.new w g
  have HM : Hid (∀ (l : List Bool) (i : Nat) (r : ByteArray × Ex), l.length = g.rules.length → g.rules[i]? = some r → ∀ W, Gb w g l W → Calls Try.prog 56 #[r.2.val, ofb (w.heap.size + 1 + 1 + 1) (w.heap.size + 1 + 1), .pointer (some ⟨mo, 0, none⟩)] W fun e W' => e = .returned (.bool (wst g.rules (mbF g lf) l i)) ∧ Below W.heap.size W W') := fun l i r hl hr W hs => by
    rw [wst_at hr]
    exact follows_any g lf l kb gb K m ob _ _ _ _ mo h10 r.2 (body_ok hok hr) W (((hin.below hs.bel).rule i r hr).body.mono hs.bel.size) (hE.grow hs.bel) (hs.kn hin hl) (hMo.below hs.bel hMo.lt)
  have HC : Hid (∀ (i : Nat) (r : ByteArray × Ex), g.rules[i]? = some r → ∀ W, Below w.heap.size w W → RuIn w.heap.size W g.a i r) := fun i r hr W hb => (hin.below hb).rule i r hr
  have HR0 : Hid (Sofar bLe g.rules.length (wst g.rules (mbF g lf)) (List.replicate g.rules.length false)) := bot_sofar no_le
  have HMo : Hid (Mono bLe g.rules.length (wst g.rules (mbF g lf))) := wst_mono g.rules (mbF g lf)
  rw [gval_eq]
  unfold ofb at HM hbn
  generalize wst g.rules (mbF g lf) = st at *
  clear hin hok hE hMo
  go_enter Try.func55, Try.ntmps55
  go_wp2_with (go_at_call 84; refine hbn.mono ?_; rintro e W1 ⟨rfl, hW1⟩; rw [← hW1] at hG0; clear hW1 hbn)
  clear hmk
  go_loopg [7] (1 * g.rules.length + 1) (fun gk p wr => ∃ (b : Bool) (l : List Bool), p = .bool b ∧ Hid (Gb w g l wr ∧ Sofar bLe g.rules.length st l ∧ (b = false → Least bLe g.rules.length st l) ∧ (b = true → 1 * g.rules.length + 1 ≤ gk + rkL bRk l)))
  case atStart => exact ⟨true, _, rfl, hG0.out, HR0.out, (fun h => by cases h), fun _ => by omega⟩
  case round =>
    clear hG0 HR0
    obtain ⟨b, l, rfl, HQ⟩ := hrel
    have hll := HQ.out.2.1.len
    have hx := HQ.out.1.x
    cases b with
    | false =>
      have hL : Hid (Least bLe g.rules.length st l) := HQ.out.2.2.1 rfl
      clear HM HC HMo hx
      go_wp2_with fail
      exact HG.out _ _ ⟨_, l, rfl, Nat.le_succ _, HQ.out.1.x, hL.out, HQ.out.1.bel⟩
    | true =>
      have hgk : Hid (1 * g.rules.length + 1 ≤ gk + rkL bRk l) := HQ.out.2.2.2 rfl
      have cG : wr.cell? ⟨w.heap.size, 0, none⟩ = some (.slice g.a g.rules.length g.c) := HQ.out.1.b0.cell 0
      have HL : Hid (Round bLe bRk g.rules.length st l 0 l false ∧ Gb w g l wr) := ⟨Round.start HQ.out.2.1, HQ.out.1⟩
      clear HQ hx
      go_wp2_with fail
      clear cG
      go_loopw [7, 22] (fun p q wr => ∃ (b : Bool) (i : Nat) (l' : List Bool), p = .bool b ∧ q = .int .i64 i ∧ i ≤ g.rules.length ∧ Hid (Round bLe bRk g.rules.length st l i l' b ∧ Gb w g l' wr)) (fun _ q _ => g.rules.length - (intOf q).toNat)
      case atStart => exact ⟨false, 0, l, rfl, rfl, Nat.zero_le _, HL⟩
      case round =>
        clear HL
        obtain ⟨b, i, l', rfl, rfl, hi, HQ⟩ := hrel
        by_cases hend : i = g.rules.length
        · have g1 : decide (i < g.rules.length) = false := by simp; omega
          clear HM HC
          have hfin : Hid (∃ k, k < gk ∧ Gb w g l' wr ∧ Sofar bLe g.rules.length st l' ∧ (b = false → Least bLe g.rules.length st l') ∧ (b = true → 1 * g.rules.length + 1 ≤ k + rkL bRk l')) := by
            have hr := HQ.out.1
            rw [hend] at hr
            have hm := rkL_most bLat l
            rw [hll] at hm
            have hg := hgk.out
            refine ⟨gk - 1, by omega, HQ.out.2, hr.so, fun hb => ?_, fun hb => ?_⟩
            · rw [hb] at hr; exact hr.fin bLat
            · have := hr.yes hb; omega
          obtain ⟨k, hk1, hk2⟩ := hfin.out
          have HK : Hid _ := hk2
          clear hend HQ hfin hk2 hgk
          go_wp2_with fail
          go_roundg k
          case measure => exact hk1
          case rel => exact ⟨b, l', rfl, HK.out⟩
        · have hlt : i < g.rules.length := by omega
          obtain ⟨r, hr⟩ : ∃ r, g.rules[i]? = some r := ⟨_, List.getElem?_eq_getElem hlt⟩
          obtain ⟨bb, o, ha, hb, c0, c1, c2, c3, c4, c5, c6, c7⟩ := rcells (HC.out i r hr wr HQ.out.2.bel)
          have hll' := HQ.out.1.so.len
          obtain ⟨f, hf⟩ : ∃ f, l'[i]? = some f := ⟨_, List.getElem?_eq_getElem (by rw [hll']; exact hlt)⟩
          have hA := (Below.refl _ wr).alloc (Nat.le_refl _) (.cells (rcell r).toArray 76)
          have hm := HM.out l' i r hll' hr _ (HQ.out.2.step hA)
          rw [val_eq] at hm
          rw [rcell_eq] at hm
          rw [ha]
          clear HC HM hend
          have HS : Hid (∀ W', Below (wr.alloc (.cells (rcell r).toArray 76)).heap.size (wr.alloc (.cells (rcell r).toArray 76)) W' → Gb w g l' W') := fun W' hb => (HQ.out.2.step hA).step hb
          have HN : Hid (∀ more' : Bool, (more' = true ↔ b = true ∨ st l' i ≠ f) → Round bLe bRk g.rules.length st l (i + 1) (l'.set i (st l' i)) more') := fun m' hm' => HQ.out.1.next bLat HMo.out hf hm'
          rw [rcell_eq] at HS
          have HF : Hid (l'[i]? = some f) := hf
          generalize st l' i = nw at *
          have i0 : (0 : Int) ≤ (i : Int) := by omega
          have i1 : (i : Int) < (g.rules.length : Int) := by omega
          clear HQ hr hf hA hb HMo hgk
          cases b
          all_goals
            go_wp2_with (go_at_call 56; refine hm.mono ?_; rintro e W2 ⟨rfl, hb⟩
                         have hS := HS.out W2 hb
                         have q0 := Mk.cell hS.x HF.out
                         have f0 := Mk.frozen hS.x i
                         have H3 : Hid _ := hS
                         clear hb HS c0 c1 c2 c3 c4 c5 c6 c7 hS hm)
            first
              | exact ⟨⟨true, i + 1, l'.set i nw, rfl, by go_num, by omega, HN.out true (by simp), H3.out.set i nw⟩, by simp [intOf]; omega⟩
              | exact ⟨⟨_, i + 1, l'.set i nw, rfl, by go_num, by omega, HN.out _ (by cases nw <;> cases f <;> simp), H3.out.set i nw⟩, by simp [intOf]; omega⟩
end Go.Proofs.Ytokdaapmejccbaa
