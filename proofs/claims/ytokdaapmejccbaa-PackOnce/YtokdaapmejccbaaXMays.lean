import Derived.Test.YtokdaapmejccbaaXRyA
import Derived.Test.YtokdaapmejccbaaXRy
import Derived.Test.YtokdaapmejccbaaXShelf
import Derived.Deep.LoopGhost
import Derived.WalkKit
import Derived.Below
import Derived.Deep.QuietTactic
import Derived.BigQuiet
import Derived.BigRegion
namespace Go.Proofs.Ytokdaapmejccbaa
open Go.RowKit
set_option linter.unusedVariables false
set_option linter.unusedSimpArgs false
/-- A row of bits of the call's own. -/
def Ix (W : World) (B : Nat) (l : List Fa) : Prop := ∃ cs : Array Value, BoxN W B 3 cs ∧ l.length ≤ cs.size ∧ ∀ (j : Nat) f, l[j]? = some f → cs[j]? = some (.int .i64 (encF f))
theorem Ix.lt {W : World} {B : Nat} {l : List Fa} (h : Ix W B l) : B < W.heap.size := by obtain ⟨cs, h1, _⟩ := h; exact h1.lt
theorem Ix.fi {W : World} {B : Nat} {l : List Fa} (h : Ix W B l) : FI W B 0 l := fun j f hf => by
  obtain ⟨cs, h1, h2, h3⟩ := h
  rw [Nat.zero_add, h1.cell]
  exact h3 j f hf
theorem Ix.below {n : Nat} {W W' : World} {B : Nat} {l : List Fa} (h : Ix W B l) (hb : Below n W W') (hB : B < n) : Ix W' B l := by
  obtain ⟨cs, h1, h2⟩ := h
  exact ⟨cs, h1.below hb hB, h2⟩
theorem Ix.kept {W W' : World} {row : Option Nat} {B : Nat} {l : List Fa} (h : Ix W B l) (hg : W.grownBy W' row) (hne : some B ≠ row) : Ix W' B l := by
  obtain ⟨cs, h1, h2⟩ := h
  exact ⟨cs, h1.kept hg hne, h2⟩
theorem Ix.frozen {W : World} {B : Nat} {l : List Fa} (h : Ix W B l) (i : Nat) : W.frozen? ⟨B, i, none⟩ = false := by
  obtain ⟨cs, h1, _⟩ := h
  simp [World.frozen?, show W.heap[B]? = _ from h1]
theorem Ix.set {W : World} {B : Nat} {l : List Fa} (h : Ix W B l) {i : Nat} (hi : i < l.length) (f : Fa) : Ix (W.setCell ⟨B, i, none⟩ (.int .i64 (encF f))) B (l.set i f) := by
  obtain ⟨cs, h1, h2, h3⟩ := h
  have k1 : BoxN _ B 3 _ := Go.Lib.heap_setCell_same (w := W) (b := B) (i := i) h1 (.int .i64 (encF f))
  refine ⟨_, k1, by simp [h2], fun j g hg => ?_⟩
  by_cases e : i = j
  · subst e
    rw [List.getElem?_set_self hi] at hg
    cases hg
    rw [Array.getElem?_setIfInBounds, if_pos rfl, if_pos (by omega)]
  · rw [List.getElem?_set_ne e] at hg
    rw [Array.getElem?_setIfInBounds, if_neg e]
    exact h3 j g hg
theorem Ix.of_row {W : World} {base n : Nat} {v : Value} {l : List Fa} (h : W.ownsRow base 3 1 v n ((l.map encF).map (Value.int .i64))) (hn : 0 < n) (hl : l.length = n) : ∃ B cap, v = .slice (some ⟨B, 0, none⟩) n cap ∧ base ≤ B ∧ n ≤ cap ∧ Ix W B l := by
  obtain ⟨h1, h2⟩ := h
  rcases h2 with ⟨_, h0⟩ | ⟨g, cap, cur, rfl, hg, hh, hnc, _, hsz, ht⟩
  · omega
  · refine ⟨g, cap, rfl, hg, hnc, cur, hh, by omega, fun j f hf => ?_⟩
    have hj : j < l.length := (List.getElem?_eq_some_iff.1 hf).1
    have h3 : (cur.toList.take (n * 1))[j]? = some (.int .i64 (encF f)) := by rw [ht]; simp [hf]
    rw [List.getElem?_take, if_pos (by omega)] at h3
    simpa using h3
def noIs (n : Nat) : Array Value := madeCells (Value.int .i64 0).cells (n * 1)
theorem make_ints (n : Nat) (hn : n ≤ 1000) (w : World) : (Instr.makeSlice 86 (.int .i64 (n : Int)) (.int .i64 (n : Int))).run Try.prog w = .ok (.slice (some ⟨w.heap.size, 0, none⟩) n n) (w.alloc (.cells (noIs n) 3)) := by
  obtain ⟨i0, hi, hz⟩ : ∃ i0, Try.prog.info? 3 = some i0 ∧ (i0.zero, i0.size, i0.bytes) = (some (.int .i64 0), 1, 8) := by
    simpa [Option.map_eq_some_iff] using Try.info3
  simp only [Prod.mk.injEq] at hz
  obtain ⟨hz0, hz1, hz2⟩ := hz
  have := run_makeSlice (P := Try.prog) w 86 3 i0 (.int .i64 0) Try.underlying86 hi hz0 .i64 .i64 n n (by omega) (by omega) (by rw [hz1]; simp; omega) (by rw [hz2]; omega) (by omega)
  rw [hz1] at this
  simp only [Int.toNat_natCast] at this
  exact this
theorem Ix.new (W : World) (n : Nat) : Ix (W.alloc (.cells (noIs n) 3)) W.heap.size (List.replicate n noF) := by
  refine ⟨noIs n, BoxN.new W 3 (noIs n), by simp [noIs, madeCells], fun j f hf => ?_⟩
  rw [List.getElem?_replicate] at hf
  split at hf
  · cases hf
    rename_i hj
    simp [noIs, madeCells, Value.cells, noF, encF, bi, hj, Nat.mod_one]
  · cases hf
theorem encF_sup (a b : Fa) : bits .or .i64 (encF a) (encF b) = encF (fSup a b) := by
  obtain ⟨a1, a2, a3⟩ := a
  obtain ⟨b1, b2, b3⟩ := b
  cases a1 <;> cases a2 <;> cases a3 <;> cases b1 <;> cases b2 <;> cases b3 <;> rfl
/-- What the reference's Mays keeps. -/
structure Ms (w : World) (g : Gr) (B : Nat) (l : List Fa) (W : World) : Prop where
  bel : Below w.heap.size w W
  b0 : BoxN W w.heap.size 24 #[.slice g.a g.rules.length g.c]
  ge : w.heap.size < B
  x : Ix W B l
theorem Ms.step {w : World} {g : Gr} {B : Nat} {l : List Fa} {W W' : World} (h : Ms w g B l W) (hb : Below W.heap.size W W') : Ms w g B l W' :=
  ⟨h.bel.trans (hb.mono h.bel.size), h.b0.below hb h.b0.lt, h.ge, h.x.below hb h.x.lt⟩
theorem Ms.put {w : World} {g : Gr} {B C : Nat} {l : List Fa} {W : World} (h : Ms w g B l W) (hC : w.heap.size < C) (hne : C ≠ B) (i : Nat) (v : Value) : Ms w g B l (W.setCell ⟨C, i, none⟩ v) :=
  ⟨h.bel.setCell (by simp; omega) v, h.b0.kept (Go.Lib.grownBy_setCell _ _ _ _) (by simp; omega), h.ge, h.x.kept (Go.Lib.grownBy_setCell _ _ _ _) (by simp; omega)⟩
theorem Ms.kn {w : World} {g : Gr} {B : Nat} {l : List Fa} {W : World} (h : Ms w g B l W) (hin : g.In w.heap.size w) (hl : l.length = g.rules.length) : Ki W.heap.size W g l B :=
  ⟨h.x.lt, Nat.le_refl _, hl, h.x.fi, (hin.below h.bel).mono h.bel.size⟩
/-- Within a round. -/
structure Mr (w : World) (g : Gr) (B B' NB : Nat) (l nx : List Fa) (r : ByteArray × Ex) (W : World) : Prop where
  m : Ms w g B l W
  x : Ix W B' nx
  b : BoxN W NB 76 (rcell r).toArray
theorem Mr.step {w : World} {g : Gr} {B B' NB : Nat} {l nx : List Fa} {r : ByteArray × Ex} {W W' : World} (h : Mr w g B B' NB l nx r W) (hb : Below W.heap.size W W') : Mr w g B B' NB l nx r W' :=
  ⟨h.m.step hb, h.x.below hb h.x.lt, h.b.below hb h.b.lt⟩
/-- What Mays answers. -/
structure MaysR (g : Gr) (w : World) (r : Ending) (W' : World) : Prop where
  out : ∃ B cap m, r = .returned (.slice (some ⟨B, 0, none⟩) g.rules.length cap) ∧ w.heap.size < B ∧ Ix W' B m ∧ Least fLe g.rules.length (mst g.rules) m ∧ Below w.heap.size w W'
set_option maxRecDepth 20000 in
set_option maxHeartbeats 8000000 in
theorem mays_any (g : Gr) (hok : GOk g.rules) (w : World) (hin : g.In w.heap.size w) : Calls Try.prog 68 #[g.val] w (MaysR g w) := by
  have HG : Hid (∀ r W', (∃ B cap m, r = .returned (.slice (some ⟨B, 0, none⟩) g.rules.length cap) ∧ w.heap.size < B ∧ Ix W' B m ∧ Least fLe g.rules.length (mst g.rules) m ∧ Below w.heap.size w W') → MaysR g w r W') := fun r W' h => ⟨h⟩
  generalize MaysR g w = PP at *
  have h10 := hok.most
  have h1 := hok.pos
  have hmk : ∀ W, _ := fun W => make_ints g.rules.length (by omega) W
  have hG0 : Hid (Ms w g (w.heap.size + 1) (List.replicate g.rules.length noF) ((w.alloc (.cells #[.slice g.a g.rules.length g.c] 24)).alloc (.cells (noIs g.rules.length) 3))) := by
    have h1 := Ix.new (w.alloc (.cells #[.slice g.a g.rules.length g.c] 24)) g.rules.length
    rw [World.size_alloc] at h1
    exact ⟨((Below.refl _ w).alloc (Nat.le_refl _) _).alloc (by simp) _, (BoxN.new w 24 _).alloc _, by omega, h1⟩
  have HM : Hid (∀ (B cap : Nat) (l : List Fa) (i : Nat) (r : ByteArray × Ex), l.length = g.rules.length → g.rules[i]? = some r → ∀ W, Ms w g B l W → Calls Try.prog 69 #[.agg #[.slice g.a g.rules.length g.c], .slice (some ⟨B, 0, none⟩) g.rules.length cap, r.2.val] W fun e W' => e = .returned (.int .i64 (encF (mst g.rules l i))) ∧ Below W.heap.size W W') := fun B cap l i r hl hr W hs => by
    rw [mst_at hr]
    have := ry_any g l B cap _ h10 r.2 (body_ok hok hr) W (((hin.below hs.bel).rule i r hr).body.mono hs.bel.size) (hs.kn hin hl)
    rw [gval_eq] at this
    exact this
  have HC : Hid (∀ (i : Nat) (r : ByteArray × Ex), g.rules[i]? = some r → ∀ W, Below w.heap.size w W → RuIn w.heap.size W g.a i r) := fun i r hr W hb => (hin.below hb).rule i r hr
  have HR0 : Hid (Jt fLe fRk g.rules.length (mst g.rules) 0 (List.replicate g.rules.length noF)) := bot_jt noF_le
  have HMo : Hid (Mono fLe g.rules.length (mst g.rules)) := mst_mono g.rules
  rw [gval_eq]
  generalize mst g.rules = st at *
  clear hin hok

  go_enter Try.func68, Try.ntmps68
  go_wp2_with fail
  clear hmk
  go_loopw [3, 16] (fun p q wr => ∃ (t B cap : Nat) (l : List Fa), p = .slice (some ⟨B, 0, none⟩) g.rules.length cap ∧ q = .int .i64 t ∧ t ≤ 3 * g.rules.length + 1 ∧ Hid (Ms w g B l wr ∧ Jt fLe fRk g.rules.length st t l)) (fun _ q _ => 3 * g.rules.length + 1 - (intOf q).toNat)
  case atStart => exact ⟨0, _, _, _, rfl, rfl, Nat.zero_le _, hG0.out, HR0.out⟩
  case round =>
    clear hG0 HR0
    obtain ⟨t, B, cap, l, rfl, rfl, ht, HQ⟩ := hrel
    by_cases hend : t = 3 * g.rules.length + 1
    · have g1 : decide ((t : Int) < 3 * (g.rules.length : Int) + 1) = false := decide_eq_false (by omega)
      have hL : Hid (Least fLe g.rules.length st l) := HQ.out.2.fin fLat (by omega)
      clear HM HC HMo hend
      go_wp2_with fail
      exact HG.out _ _ ⟨_, _, l, rfl, HQ.out.1.ge, HQ.out.1.x, hL.out, HQ.out.1.bel⟩
    · have g1 : decide ((t : Int) < 3 * (g.rules.length : Int) + 1) = true := decide_eq_true (by omega)
      have htl : t < 3 * g.rules.length + 1 := by omega
      have hll := HQ.out.2.len
      have hcl := Try.slices_Clone_int B 0 g.rules.length cap (l.map encF) wr (by simp [hll]) (by omega) (fun j hj => by
        have hj' : j < l.length := by simpa using hj
        obtain ⟨f, hf⟩ : ∃ f, l[j]? = some f := ⟨_, List.getElem?_eq_getElem hj'⟩
        rw [HQ.out.1.x.fi j f hf]
        simp [List.getD, hf])
      rw [List.take_of_length_le (by simp [hll])] at hcl
      have HS : Hid (∀ W', Below wr.heap.size wr W' → Ms w g B l W') := fun W' hb => HQ.out.1.step hb
      have hJ : Hid (Jt fLe fRk g.rules.length st t l) := HQ.out.2
      have hlt2 : Hid (wr.heap.size > B ∧ B > w.heap.size) := ⟨HQ.out.1.x.lt, HQ.out.1.ge⟩
      clear HQ hend
      go_wp2_with (go_at_call 100; refine hcl.mono ?_; rintro e W1 ⟨v', rfl, hrow, -, hb1⟩
                   obtain ⟨B', cap', rfl, hB', hcp, hIx⟩ := Ix.of_row hrow h1 hll
                   have hS1 := HS.out W1 hb1
                   have cG : W1.cell? ⟨w.heap.size, 0, none⟩ = some (.slice g.a g.rules.length g.c) := hS1.b0.cell 0
                   have HL : Hid (Ms w g B l W1 ∧ Ix W1 B' l ∧ Jr fSup g.rules.length st l 0 l) := ⟨hS1, hIx, Jr.start fSup st hll⟩
                   have hBB : Hid (B < B' ∧ w.heap.size < B') := by have := hlt2.out; exact ⟨by omega, by omega⟩
                   clear hrow hb1 hIx hS1 hcl hB')
      clear cG HS
      go_loopw [23] (fun p wq => ∃ (i : Nat) (nx : List Fa), p = .int .i64 i ∧ i ≤ g.rules.length ∧ Hid (Ms w g B l wq ∧ Ix wq B' nx ∧ Jr fSup g.rules.length st l i nx)) (fun p _ => g.rules.length - (intOf p).toNat)
      case atStart => exact ⟨0, l, rfl, Nat.zero_le _, HL⟩
      case round =>
        clear HL
        obtain ⟨i, nx, rfl, hi, HQ⟩ := hrel
        by_cases hend : i = g.rules.length
        · have g2 : decide (i < g.rules.length) = false := by simp; omega
          have HN : Hid (Ms w g B' nx wr ∧ Jt fLe fRk g.rules.length st (t + 1) nx) := by
            have h3 := HQ.out.2.2
            rw [hend] at h3
            exact ⟨⟨HQ.out.1.bel, HQ.out.1.b0, hBB.out.2, HQ.out.2.1⟩, hJ.out.next fLat fSup_ok HMo.out h3⟩
          clear hend HQ HM HC
          go_wp2_with fail
          exact ⟨⟨t + 1, B', cap', nx, rfl, by go_num, by omega, HN⟩, by simp [intOf]; omega⟩
        · have hlt : i < g.rules.length := by omega
          obtain ⟨r, hr⟩ : ∃ r, g.rules[i]? = some r := ⟨_, List.getElem?_eq_getElem hlt⟩
          obtain ⟨bb, o, ha, hb, c0, c1, c2, c3, c4, c5, c6, c7⟩ := rcells (HC.out i r hr wr HQ.out.1.bel)
          have hA := (Below.refl _ wr).alloc (Nat.le_refl _) (.cells (rcell r).toArray 76)
          have hM0 : Hid (Mr w g B B' wr.heap.size l nx r (wr.alloc (.cells (rcell r).toArray 76))) := ⟨HQ.out.1.step hA, HQ.out.2.1.below hA HQ.out.2.1.lt, BoxN.new wr 76 _⟩
          obtain ⟨fo, hfo⟩ : ∃ fo, l[i]? = some fo := ⟨_, List.getElem?_eq_getElem (by rw [hll]; exact hlt)⟩
          have hnx : nx[i]? = some fo := by have := HQ.out.2.2.new i fo hfo; rw [if_neg (by omega)] at this; exact this
          have hm : ∀ W, Mr w g B B' wr.heap.size l nx r W → Calls Try.prog 69 #[.agg #[.slice (some ⟨bb, o, none⟩) g.rules.length g.c], .slice (some ⟨B, 0, none⟩) g.rules.length cap, .agg #[.int .i64 r.2.k, .int .u64 (wd r.2.S 0), .int .u64 (wd r.2.S 1), .int .u64 (wd r.2.S 2), .int .u64 (wd r.2.S 3), .string r.2.t, .slice r.2.a r.2.kids.length r.2.c]] W fun e W' => e = .returned (.int .i64 (encF (st l i))) ∧ Below W.heap.size W W' := fun W h => by
            have := HM.out B cap l i r hll hr W h.m
            rw [ha, val_eq] at this
            exact this
          have hN : Hid (Jr fSup g.rules.length st l (i + 1) (nx.set i (fSup fo (st l i)))) := HQ.out.2.2.next hfo
          have hnl : nx.length = g.rules.length := HQ.out.2.2.len
          have hz := encF_sup fo (st l i)
          have i0 : (0 : Int) ≤ (i : Int) := by omega
          have i1 : (i : Int) < (g.rules.length : Int) := by omega
          generalize st l i = nw at *
          rw [rcell_eq] at hM0
          have HA : Hid (g.a = some ⟨bb, o, none⟩) := ha
          rw [ha]
          clear hend HQ hr hA hb HM HC HMo hJ ha hfo hll
          go_wp2_with fail
          have ha := HA.out
          have hM1 := hM0.out
          generalize wr.alloc (.cells #[.string r.1, .int .i64 r.2.k, .int .u64 (wd r.2.S 0), .int .u64 (wd r.2.S 1), .int .u64 (wd r.2.S 2), .int .u64 (wd r.2.S 3), .string r.2.t, .slice r.2.a r.2.kids.length r.2.c] 76) = w1 at *
          refine wp_region_lit (Mr w g B B' wr.heap.size l nx r) _ _ (by kernel_rfl) rfl (by kernel_rfl) (by kernel_rfl) (hM1.step (Below.refl _ w1).drew) ?_
          dsimp only [List.dropLast]
          clear ha c0 c1 c2 c3 c4 c5 c6 c7 hM0 hM1
          have hac : ∀ W, Mr w g B B' wr.heap.size l nx r W → W.cell? ⟨w.heap.size, 0, none⟩ = some (.slice (some ⟨bb, o, none⟩) g.rules.length g.c) := fun W h => by rw [← HA.out]; exact h.m.b0.cell 0
          repeat (first
            | go_big_quiet_skip
            | (go_big_quiet_want
               apply Exists.intro
               refine ⟨fun W hW => ?_, ?_⟩
               · have q0 := hW.x.fi i fo hnx
                 rw [Nat.zero_add] at q0
                 have q1 := hac W hW
                 have d1 : W.cell? ⟨wr.heap.size, 1, none⟩ = some (.int .i64 r.2.k) := hW.b.cell 1
                 have d2 : W.cell? ⟨wr.heap.size, 2, none⟩ = some (.int .u64 (wd r.2.S 0)) := hW.b.cell 2
                 have d3 : W.cell? ⟨wr.heap.size, 3, none⟩ = some (.int .u64 (wd r.2.S 1)) := hW.b.cell 3
                 have d4 : W.cell? ⟨wr.heap.size, 4, none⟩ = some (.int .u64 (wd r.2.S 2)) := hW.b.cell 4
                 have d5 : W.cell? ⟨wr.heap.size, 5, none⟩ = some (.int .u64 (wd r.2.S 3)) := hW.b.cell 5
                 have d6 : W.cell? ⟨wr.heap.size, 6, none⟩ = some (.string r.2.t) := hW.b.cell 6
                 have d7 : W.cell? ⟨wr.heap.size, 7, none⟩ = some (.slice r.2.a r.2.kids.length r.2.c) := hW.b.cell 7
                 unfold Oper.quietAt
                 go_simp
                 first
                   | with_reducible exact rfl
                   | with_reducible exact ⟨rfl, rfl⟩
                   | (go_at_call 69
                      refine (hm W hW).mono ?_
                      rintro e W1 ⟨rfl, hb⟩
                      exact ⟨rfl, hW.step hb⟩)
               go_big_quiet_on
               simp only [Act.put, List.setIfInBounds_toArray, List.set_cons_zero, List.set_cons_succ]))
          refine wpQuiet_nil ?_
          intro W hW
          have q0 := hW.x.fi i fo hnx
          rw [Nat.zero_add] at q0
          have f0 := hW.x.frozen i
          have HN : Hid (Ms w g B l (W.setCell ⟨B', i, none⟩ (.int .i64 (encF (fSup fo nw)))) ∧ Ix (W.setCell ⟨B', i, none⟩ (.int .i64 (encF (fSup fo nw)))) B' (nx.set i (fSup fo nw))) := ⟨hW.m.put hBB.out.2 (by have := hBB.out.1; omega) i _, hW.x.set (by rw [hnl]; exact hlt) _⟩
          clear hW hac hm
          rw [if_pos (by rfl)]
          go_simp
          go_wp2_with fail
          exact ⟨⟨i + 1, nx.set i (fSup fo nw), by go_num, by omega, HN.out.1, HN.out.2, hN.out⟩, by simp [intOf]; omega⟩
end Go.Proofs.Ytokdaapmejccbaa
