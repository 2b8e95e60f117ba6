import Derived.Test.YtokdaapmejccbaaXGrowB
import Derived.Test.YtokdaapmejccbaaXRyA
import Derived.WalkKit
import Derived.Below
import Derived.Deep.QuietTactic
import Derived.BigQuiet
import Derived.BigRegion
import Derived.Deep.RegionHeld3
namespace Go.Proofs.Ytokdaapmejccbaa
open Go.RowKit
set_option linter.unusedVariables false
set_option linter.unusedSimpArgs false
theorem run_store_fn {P : Program} {w : World} {a : Addr} {m : Mode} (fn : Fn) (fs cs : Array Value) : (store a (.func fn fs cs) m).run P w = stored P w a (.func fn fs cs) m := run_store P w a _ m rfl
attribute [local go_sem] run_store_fn
/-- The first of a kind. -/
def fiF {α : Type} (p : α → Bool) : Nat → List α → Option Nat
  | _, [] => none
  | i, x :: l => if p x then some i else fiF p (i + 1) l
theorem fiF_drop {α : Type} (p : α → Bool) (l : List α) (i : Nat) (x : α) (h : l[i]? = some x) : fiF p i (l.drop i) = if p x then some i else fiF p (i + 1) (l.drop (i + 1)) := by
  rw [drop_at _ _ _ h, fiF]
def oI : Option Nat → Int
  | none => -1
  | some i => i
set_option maxRecDepth 20000 in
set_option maxHeartbeats 4000000 in
theorem idxB_any (B c : Nat) (l : List Bool) (v : Bool) (hl : l.length ≤ 1000) (w : World) (h : Mk w B l) :
    Calls Try.prog 58 #[.slice (some ⟨B, 0, none⟩) l.length c, .bool v] w fun r W' => r = .returned (.int .i64 (oI (fiF (fun x => x == v) 0 l))) ∧ Below w.heap.size w W' := by
  have H0 : Hid (Below w.heap.size w w ∧ Mk w B l) := ⟨Below.refl _ _, h⟩
  obtain ⟨R, hR⟩ : ∃ R, fiF (fun x => x == v) 0 l = R := ⟨_, rfl⟩
  rw [hR]
  have HR0 : Hid (fiF (fun x => x == v) 0 (l.drop 0) = R) := hR
  clear hR h
  go_enter Try.func58, Try.ntmps58
  go_wp2_with fail
  go_loopw [8] (fun p wr => ∃ i : Nat, p = .int .i64 i ∧ i ≤ l.length ∧ Hid (fiF (fun x => x == v) i (l.drop i) = R) ∧ Hid (Below w.heap.size w wr ∧ Mk wr B l)) (fun p _ => l.length - (intOf p).toNat)
  case atStart => exact ⟨0, rfl, Nat.zero_le _, HR0, H0⟩
  case round =>
    clear HR0 H0
    obtain ⟨i, rfl, hi, HR, HQ⟩ := hrel
    by_cases hend : i = l.length
    · have g1 : decide (i < l.length) = false := by simp; omega
      have hR : none = R := by have := HR.out; rw [hend, List.drop_length, fiF] at this; exact this
      subst hR
      clear hend
      go_wp2_with fail
      first
        | (go_ret
           exact ⟨rfl, HQ.out.1⟩)
        | exact ⟨rfl, HQ.out.1⟩
    · have hlt : i < l.length := by omega
      obtain ⟨x, hx⟩ : ∃ x, l[i]? = some x := ⟨_, List.getElem?_eq_getElem hlt⟩
      have q0 := Mk.cell HQ.out.2 hx
      have HD : Hid ((if (x == v) then some i else fiF (fun x => x == v) (i + 1) (l.drop (i + 1))) = R) := by have h5 := fiF_drop (fun x => x == v) l i x hx; rw [HR.out] at h5; exact h5.symm
      have i0 : (0 : Int) ≤ (i : Int) := by omega
      have i1 : (i : Int) < (l.length : Int) := by omega
      clear hend HR hx
      have hnext : Hid (x ≠ v → fiF (fun x => x == v) (i + 1) (l.drop (i + 1)) = R) := fun hne => by have := HD.out; rw [if_neg (by simpa using hne)] at this; exact this
      have hstop : Hid (x = v → some i = R) := fun he => by have := HD.out; rw [if_pos (by simpa using he)] at this; exact this
      clear HD
      cases x <;> cases v
      all_goals
        go_wp2_with fail
        first
          | exact ⟨⟨i + 1, by go_num, by omega, hnext.out (by simp), HQ⟩, by simp [intOf]; omega⟩
          | (have hR := hstop.out (by simp)
             subst hR
             first
               | (go_ret
                  exact ⟨rfl, HQ.out.1⟩)
               | exact ⟨rfl, HQ.out.1⟩)
def SK (w : World) (g : Gr) (W : World) : Prop := Below w.heap.size w W ∧ W.cell? ⟨w.heap.size, 0, none⟩ = some (.slice g.a g.rules.length g.c)
theorem SK.step {w : World} {g : Gr} {W W' : World} (h : SK w g W) (hb : Below W.heap.size W W') : SK w g W' := ⟨h.1.trans (hb.mono h.1.size), (hb.cell (p := ⟨w.heap.size, 0, none⟩) (World.block_lt_of_cell? W _ h.2)).trans h.2⟩
theorem SK.alloc {w : World} {g : Gr} {W : World} (h : SK w g W) (o : Obj) : SK w g (W.alloc o) := h.step ((Below.refl _ W).alloc (Nat.le_refl _) o)
theorem SK.drew {w : World} {g : Gr} {W : World} (h : SK w g W) : SK w g W.drew := h.step (Below.refl _ W).drew
theorem SK.store {w : World} {g : Gr} {W : World} (h : SK w g W) (B : Nat) (hB : w.heap.size < B) (v : Value) : SK w g (W.setCell ⟨B, 0, none⟩ v) :=
  ⟨h.1.setCell (by simp; omega) v, by rw [World.cell?_setCell_far _ _ _ _ (by simp; omega)]; exact h.2⟩
/-- What Well stands on. -/
structure Wg (w : World) (g : Gr) (lf : List Fa) (K ob gb : Nat) (W : World) : Prop where
  bel : Below w.heap.size w W
  b0 : BoxN W w.heap.size 24 #[.slice g.a g.rules.length g.c]
  em : ∃ m, Em m W g lf (gb + 1) gb K ob
theorem Wg.step {w : World} {g : Gr} {lf : List Fa} {K ob gb : Nat} {W W' : World} (h : Wg w g lf K ob gb W) (hb : Below W.heap.size W W') : Wg w g lf K ob gb W' :=
  ⟨h.bel.trans (hb.mono h.bel.size), h.b0.below hb h.b0.lt, by obtain ⟨m, hm⟩ := h.em; exact ⟨m, hm.grow hb⟩⟩
theorem Wg.of {w : World} {g : Gr} {lf : List Fa} {K ob gb : Nat} {W : World} (hin : g.In w.heap.size w) (hlen : lf.length = g.rules.length) (bel : Below w.heap.size w W) (b0 : BoxN W w.heap.size 24 #[.slice g.a g.rules.length g.c]) (hF : Fx W K lf)
    (bg : BoxN W gb 24 #[.slice g.a g.rules.length g.c]) (bk : BoxN W (gb + 1) 48 #[.slice (some ⟨K, 0, none⟩) g.rules.length g.rules.length]) (bo : BoxN W ob 106 #[ofv (gb + 1) gb]) : Wg w g lf K ob gb W :=
  ⟨bel, b0, W.heap.size, ⟨bk.lt, bg.lt, hF.lt, Nat.le_refl _, hlen, bk, bg, hF.fat, (hin.below bel).mono bel.size⟩, bo.lt, bo⟩
theorem Fx.alloc {W : World} {B : Nat} {l : List Fa} (h : Fx W B l) (o : Obj) : Fx (W.alloc o) B l := h.kept (World.grownBy_alloc _ _ none) (by simp)
theorem bel3 {w W : World} (h : Below w.heap.size w W) (o1 o2 o3 : Obj) : Below w.heap.size w (((W.alloc o1).alloc o2).alloc o3) := ((h.alloc h.size o1).alloc (by have := h.size; simp; omega) o2).alloc (by have := h.size; simp; omega) o3
/-- The box was made last. -/
theorem Wg.last {w : World} {g : Gr} {lf : List Fa} {K : Nat} {W : World} (hin : g.In w.heap.size w) (hlen : lf.length = g.rules.length) (bel : Below w.heap.size w W) (b0 : BoxN W w.heap.size 24 #[.slice g.a g.rules.length g.c]) (hF : Fx W K lf) :
    Wg w g lf K (W.heap.size + 1 + 1) W.heap.size (((W.alloc (.cells #[.slice g.a g.rules.length g.c] 24)).alloc (.cells #[.slice (some ⟨K, 0, none⟩) g.rules.length g.rules.length] 48)).alloc (.cells #[ofv (W.heap.size + 1) W.heap.size] 106)) := by
  have h1 := BoxN.new W 24 #[.slice g.a g.rules.length g.c]
  have h2 := BoxN.new (W.alloc (.cells #[.slice g.a g.rules.length g.c] 24)) 48 #[.slice (some ⟨K, 0, none⟩) g.rules.length g.rules.length]
  have h3 := BoxN.new ((W.alloc (.cells #[.slice g.a g.rules.length g.c] 24)).alloc (.cells #[.slice (some ⟨K, 0, none⟩) g.rules.length g.rules.length] 48)) 106 #[ofv (W.heap.size + 1) W.heap.size]
  rw [World.size_alloc] at h2
  rw [World.size_alloc, World.size_alloc] at h3
  exact Wg.of hin hlen (bel3 bel _ _ _) (((b0.alloc _).alloc _).alloc _) (((hF.alloc _).alloc _).alloc _) ((h1.alloc _).alloc _) (h2.alloc _) h3
/-- The box was made ahead of the closure. -/
theorem Wg.mid {w : World} {g : Gr} {lf : List Fa} {K : Nat} {W : World} (hin : g.In w.heap.size w) (hlen : lf.length = g.rules.length) (bel : Below w.heap.size w W) (b0 : BoxN W w.heap.size 24 #[.slice g.a g.rules.length g.c]) (hF : Fx W K lf) :
    Wg w g lf K W.heap.size (W.heap.size + 1) (((W.alloc (.cells #[ofv (W.heap.size + 1 + 1) (W.heap.size + 1)] 106)).alloc (.cells #[.slice g.a g.rules.length g.c] 24)).alloc (.cells #[.slice (some ⟨K, 0, none⟩) g.rules.length g.rules.length] 48)) := by
  have h1 := BoxN.new W 106 #[ofv (W.heap.size + 1 + 1) (W.heap.size + 1)]
  have h2 := BoxN.new (W.alloc (.cells #[ofv (W.heap.size + 1 + 1) (W.heap.size + 1)] 106)) 24 #[.slice g.a g.rules.length g.c]
  have h3 := BoxN.new ((W.alloc (.cells #[ofv (W.heap.size + 1 + 1) (W.heap.size + 1)] 106)).alloc (.cells #[.slice g.a g.rules.length g.c] 24)) 48 #[.slice (some ⟨K, 0, none⟩) g.rules.length g.rules.length]
  rw [World.size_alloc] at h2
  rw [World.size_alloc, World.size_alloc] at h3
  exact Wg.of hin hlen (bel3 bel _ _ _) (((b0.alloc _).alloc _).alloc _) (((hF.alloc _).alloc _).alloc _) (h2.alloc _) h3 ((h1.alloc _).alloc _)
/-- The box was made first. -/
theorem Wg.first {w : World} {g : Gr} {lf : List Fa} {K O : Nat} {W : World} {z : Value} (hin : g.In w.heap.size w) (hlen : lf.length = g.rules.length) (bel : Below w.heap.size w W) (b0 : BoxN W w.heap.size 24 #[.slice g.a g.rules.length g.c]) (hF : Fx W K lf) (hO : BoxN W O 106 #[z]) (hOw : w.heap.size < O) (hOK : O < K) :
    Wg w g lf K O W.heap.size (((W.setCell ⟨O, 0, none⟩ (ofv (W.heap.size + 1) W.heap.size)).alloc (.cells #[.slice g.a g.rules.length g.c] 24)).alloc (.cells #[.slice (some ⟨K, 0, none⟩) g.rules.length g.rules.length] 48)) := by
  have h4 : BoxN (W.setCell ⟨O, 0, none⟩ (ofv (W.heap.size + 1) W.heap.size)) O 106 #[ofv (W.heap.size + 1) W.heap.size] := by
    have := Go.Lib.heap_setCell_same (w := W) (b := O) (i := 0) hO (ofv (W.heap.size + 1) W.heap.size)
    unfold BoxN
    rw [this]
    rfl
  have hg : W.grownBy (W.setCell ⟨O, 0, none⟩ (ofv (W.heap.size + 1) W.heap.size)) (some O) := Go.Lib.grownBy_setCell _ _ _ _
  have hs : (W.setCell ⟨O, 0, none⟩ (ofv (W.heap.size + 1) W.heap.size)).heap.size = W.heap.size := by simp
  have bel2 : Below w.heap.size w (W.setCell ⟨O, 0, none⟩ (ofv (W.heap.size + 1) W.heap.size)) := bel.setCell (by simp; omega) _
  have b02 := b0.kept hg (by simp; omega)
  have hF2 := hF.kept hg (by simp; omega)
  generalize W.setCell ⟨O, 0, none⟩ (ofv (W.heap.size + 1) W.heap.size) = V at *
  rw [← hs] at h4 ⊢
  have h1 := BoxN.new V 24 #[.slice g.a g.rules.length g.c]
  have h2 := BoxN.new (V.alloc (.cells #[.slice g.a g.rules.length g.c] 24)) 48 #[.slice (some ⟨K, 0, none⟩) g.rules.length g.rules.length]
  rw [World.size_alloc] at h2
  exact Wg.of hin hlen ((bel2.alloc bel2.size _).alloc (by have := bel2.size; simp; omega) _) ((b02.alloc _).alloc _) ((hF2.alloc _).alloc _) (h1.alloc _) h2 ((h4.alloc _).alloc _)
/-- What Well tells. -/
def WellN (g : Gr) (lf : List Fa) (n e : Int) : Prop :=
  match fiF (fun r : ByteArray × Ex => r.2.lp (mbF g lf)) 0 g.rules with
  | some i => n = i ∧ e = 9
  | none => ∃ lb, Least bLe g.rules.length (wst g.rules (mbF g lf)) lb ∧ match fiF (fun x => x == false) 0 lb with
    | some i => n = i ∧ e = 8
    | none => n = 0 ∧ e = 0
structure WellR (g : Gr) (w : World) (r : Ending) (W' : World) : Prop where
  out : ∃ lf, Least fLe g.rules.length (mst g.rules) lf ∧ ∃ n e : Int, WellN g lf n e ∧ r = .returned (.tuple #[.int .i64 n, .int .i64 e]) ∧ Below w.heap.size w W'
set_option maxRecDepth 20000 in
set_option maxHeartbeats 8000000 in
theorem well_ok (g : Gr) (h0 : gcheck g.rules = 0) (w : World) (hin : g.In w.heap.size w) : Calls Try.prog 28 #[g.val] w (WellR g w) := by
  have hok := gcheck_ok h0
  have h10 := hok.most
  have hmf : ∀ (fn : Fn) (first cap : Array Value) (w : World), (Instr.makeFunc fn first cap).run Try.prog w = .ok (.func fn first cap) w := fun _ _ _ _ => rfl
  have HG : Hid (∀ r W', (∃ lf, Least fLe g.rules.length (mst g.rules) lf ∧ ∃ n e : Int, WellN g lf n e ∧ r = .returned (.tuple #[.int .i64 n, .int .i64 e]) ∧ Below w.heap.size w W') → WellR g w r W') := fun r W' h => ⟨h⟩
  generalize WellR g w = PP at *
  have hA := (Below.refl w.heap.size w).alloc (Nat.le_refl _) (.cells #[.slice g.a g.rules.length g.c] 24)
  have bG := BoxN.new w 24 #[.slice g.a g.rules.length g.c]
  have hck := gcheck_any g _ (hin.grow hA)
  rw [h0] at hck
  have HN : Hid (∀ {W}, Below (w.alloc (.cells #[.slice g.a g.rules.length g.c] 24)).heap.size (w.alloc (.cells #[.slice g.a g.rules.length g.c] 24)) W → Below w.heap.size w W ∧ BoxN W w.heap.size 24 #[.slice g.a g.rules.length g.c]) := fun h => ⟨hA.trans (h.mono hA.size), bG.below h (by simp)⟩
  have HS : Hid (∀ {W W2 : World}, Below w.heap.size w W ∧ BoxN W w.heap.size 24 #[.slice g.a g.rules.length g.c] → Below W.heap.size W W2 → Below w.heap.size w W2 ∧ BoxN W2 w.heap.size 24 #[.slice g.a g.rules.length g.c]) := fun h hb => ⟨h.1.trans (hb.mono h.1.size), h.2.below hb h.2.lt⟩
  have hgr : ∀ W, Below w.heap.size w W → _ := fun W h => grow_any g hok W (hin.grow h)
  have hbn : ∀ (ka : Option Addr) (kn kc : Nat) (W : World), _ := fun ka kn kc W => byName_any g ka kn kc W
  have HI : Hid (g.In w.heap.size w) := hin
  rw [gval_eq] at hck hgr ⊢
  unfold ofv at hbn
  clear hA bG hin
  go_enter Try.func28, Try.ntmps28
  go_wp2_with (go_at_call 31; refine hck.mono ?_; rintro e W1 ⟨rfl, hb1⟩; have k1 := HN.out hb1; have c1 := k1.2.cell 0; simp only [List.getElem?_toArray, List.getElem?_cons_zero] at c1; clear hb1 hck)
  rename_i Kc hKc
  have hrest : ∀ (lf : List Fa) (K ob gb : Nat) (W5 : World), Least fLe g.rules.length (mst g.rules) lf → Wg w g lf K ob gb W5 →
      Kc { tmps := #[.agg #[.slice g.a g.rules.length g.c], .pointer (some ⟨w.heap.size, 0, none⟩), .int .i64 0, .int .i64 0, .int .i64 0, .pointer (some ⟨ob, 0, none⟩), undef, undef, undef, undef, undef, .agg #[.slice g.a g.rules.length g.c], .int .i64 0, .int .i64 0, .bool false, undef, .agg #[.slice g.a g.rules.length g.c], .agg #[.slice g.a g.rules.length g.c], .slice (some ⟨K, 0, none⟩) g.rules.length g.rules.length, ofv (gb + 1) gb, undef, undef, undef, undef, undef, undef, undef, undef, undef, undef, undef, undef, undef, undef, undef, undef, undef, undef, undef, undef, undef, undef, undef], defers := [] } W5 := by
    intro lf K ob gb W5 hL hW
    refine hKc _ _ ?_
    clear hKc hgr hbn HS HN c1 k1
    unfold ofv
    have c5 : W5.cell? ⟨w.heap.size, 0, none⟩ = some (.slice g.a g.rules.length g.c) := hW.b0.cell 0
    have hA6 := (Below.refl _ W5).alloc (Nat.le_refl _) (.cells #[mbv ob] 108)
    have HL0 : Hid (Wg w g lf K ob gb (W5.alloc (.cells #[mbv ob] 108)) ∧ BoxN (W5.alloc (.cells #[mbv ob] 108)) W5.heap.size 108 #[mbv ob]) := ⟨hW.step hA6, BoxN.new W5 108 _⟩
    have c6 : (W5.alloc (.cells #[mbv ob] 108)).cell? ⟨w.heap.size, 0, none⟩ = some (.slice g.a g.rules.length g.c) := (hW.step hA6).b0.cell 0
    have HLp : Hid (∀ (i : Nat) (r : ByteArray × Ex), g.rules[i]? = some r → ∀ W, Wg w g lf K ob gb W → Calls Try.prog 54 #[r.2.val, mbv ob] W fun e W' => e = .returned (.bool (r.2.lp (mbF g lf))) ∧ Below W.heap.size W W') := fun i r hr W h => by
      obtain ⟨m, hm⟩ := h.em
      exact loops_any g lf _ gb K m ob h10 r.2 (body_ok hok hr) W (((HI.out.below h.bel).rule i r hr).body.mono h.bel.size) hm
    have HC : Hid (∀ (i : Nat) (r : ByteArray × Ex), g.rules[i]? = some r → ∀ W, Below w.heap.size w W → RuIn w.heap.size W g.a i r) := fun i r hr W hb => (HI.out.below hb).rule i r hr
    have HGr : Hid (∀ W, Wg w g lf K ob gb W → BoxN W W5.heap.size 108 #[mbv ob] → Calls Try.prog 55 #[.agg #[.slice g.a g.rules.length g.c], .func (.func 56) #[] #[.pointer (some ⟨W5.heap.size, 0, none⟩)]] W (GrowB g (mbF g lf) W)) := fun W h hM => by
      obtain ⟨m, hm⟩ := h.em
      have := growB_any g hok lf _ gb K m ob W5.heap.size W (HI.out.grow h.bel) hm hM
      rw [gval_eq] at this
      exact this
    obtain ⟨RL, hRL⟩ : ∃ RL, fiF (fun r : ByteArray × Ex => r.2.lp (mbF g lf)) 0 g.rules = RL := ⟨_, rfl⟩
    have HRL : Hid (fiF (fun r : ByteArray × Ex => r.2.lp (mbF g lf)) 0 (g.rules.drop 0) = RL) := hRL
    have HRR : Hid (fiF (fun r : ByteArray × Ex => r.2.lp (mbF g lf)) 0 g.rules = RL) := hRL
    have HLe : Hid (Least fLe g.rules.length (mst g.rules) lf) := hL
    unfold mbv at HL0 c6 HLp HGr
    clear hW hA6 c5 hRL hL HI
    go_wp2_with fail
    clear c6
    go_loopw [24] (fun p wr => ∃ i : Nat, p = .int .i64 i ∧ i ≤ g.rules.length ∧ Hid (fiF (fun r : ByteArray × Ex => r.2.lp (mbF g lf)) i (g.rules.drop i) = RL) ∧ Hid (Wg w g lf K ob gb wr ∧ BoxN wr W5.heap.size 108 #[.func (.func 53) #[] #[.pointer (some ⟨ob, 0, none⟩)]])) (fun p _ => g.rules.length - (intOf p).toNat)
    case atStart => exact ⟨0, rfl, Nat.zero_le _, HRL, HL0⟩
    case round =>
      clear HRL HL0
      obtain ⟨i, rfl, hi, HR, HQ⟩ := hrel
      by_cases hend : i = g.rules.length
      · have g1 : decide (i < g.rules.length) = false := by simp; omega
        have hR : none = RL := by have := HR.out; rw [hend, List.drop_length, fiF] at this; exact this
        subst hR
        have cG : wr.cell? ⟨w.heap.size, 0, none⟩ = some (.slice g.a g.rules.length g.c) := HQ.out.1.b0.cell 0
        have hgr := HGr.out wr HQ.out.1 HQ.out.2
        have hib : ∀ (B : Nat) (l : List Bool) (hl : l.length = g.rules.length) (W : World) (h : Mk W B l), Calls Try.prog 58 #[.slice (some ⟨B, 0, none⟩) g.rules.length g.rules.length, .bool false] W fun r W' => r = .returned (.int .i64 (oI (fiF (fun x => x == false) 0 l))) ∧ Below W.heap.size W W' := fun B l hl W h => by
          have := idxB_any B g.rules.length l false (by omega) W h
          rw [hl] at this
          exact this
        have HBl : Hid (Below w.heap.size w wr) := HQ.out.1.bel
        clear hend HR HQ HLp HC HGr
        go_wp2_with (first
          | (go_at_call 55; refine hgr.mono ?_; rintro e5 W7 ⟨B, lb, rfl, hB, hM, hLb, hb7⟩; have HLb : Hid (Least bLe g.rules.length (wst g.rules (mbF g lf)) lb) := hLb; have hll := hLb.pre.len; clear hLb)
          | (go_at_call 58; refine (hib B lb hll W7 hM).mono ?_; rintro e6 W8 ⟨rfl, hb8⟩; have HB8 : Hid (Below w.heap.size w W8) := (HBl.out.trans (hb7.mono HBl.out.size)).trans (hb8.mono (Nat.le_trans HBl.out.size hb7.size)); obtain ⟨RB, hRB⟩ : ∃ RB, fiF (fun x => x == false) 0 lb = RB := ⟨_, rfl⟩; have HRB : Hid (fiF (fun x => x == false) 0 lb = RB) := hRB; rw [hRB]; clear hRB hb7 hb8 hM hgr hib hB))
        · obtain ⟨i, rfl⟩ : ∃ i, RB = some i := by
            cases RB with
            | none => exfalso; simp_all [oI]
            | some i => exact ⟨i, rfl⟩
          refine HG.out _ _ ⟨lf, HLe.out, (i : Int), 8, ?_, ?_, HB8.out⟩
          · unfold WellN
            rw [HRR.out]
            refine ⟨lb, HLb.out, ?_⟩
            rw [HRB.out]
            exact ⟨rfl, rfl⟩
          · simp [oI]
        · obtain rfl : RB = none := by
            cases RB with
            | none => rfl
            | some i => exfalso; simp_all [oI] <;> omega
          refine HG.out _ _ ⟨lf, HLe.out, 0, 0, ?_, ?_, HB8.out⟩
          · unfold WellN
            rw [HRR.out]
            refine ⟨lb, HLb.out, ?_⟩
            rw [HRB.out]
            exact ⟨rfl, rfl⟩
          · simp
      · have hlt : i < g.rules.length := by omega
        obtain ⟨r, hr⟩ : ∃ r, g.rules[i]? = some r := ⟨_, List.getElem?_eq_getElem hlt⟩
        obtain ⟨bb, o, ha, hb, c0, c1, c2, c3, c4, c5, c6, c7⟩ := rcells (HC.out i r hr wr HQ.out.1.bel)
        have hA := (Below.refl _ wr).alloc (Nat.le_refl _) (.cells (rcell r).toArray 76)
        have hW7 := HQ.out.1.step hA
        have cm : (wr.alloc (.cells (rcell r).toArray 76)).cell? ⟨W5.heap.size, 0, none⟩ = some (.func (.func 53) #[] #[.pointer (some ⟨ob, 0, none⟩)]) := (HQ.out.2.below hA HQ.out.2.lt).cell 0
        have hlp := HLp.out i r hr _ hW7
        have HS : Hid (∀ W', Below (wr.alloc (.cells (rcell r).toArray 76)).heap.size (wr.alloc (.cells (rcell r).toArray 76)) W' → Wg w g lf K ob gb W' ∧ BoxN W' W5.heap.size 108 #[.func (.func 53) #[] #[.pointer (some ⟨ob, 0, none⟩)]]) := fun W' hb => ⟨hW7.step hb, (HQ.out.2.below hA HQ.out.2.lt).below hb (by have := HQ.out.2.lt; simp; omega)⟩
        have HD : Hid ((if r.2.lp (mbF g lf) then some i else fiF (fun r : ByteArray × Ex => r.2.lp (mbF g lf)) (i + 1) (g.rules.drop (i + 1))) = RL) := by have h5 := fiF_drop (fun r : ByteArray × Ex => r.2.lp (mbF g lf)) g.rules i r hr; rw [HR.out] at h5; exact h5.symm
        rw [val_eq] at hlp
        rw [rcell_eq] at hlp HS cm
        rw [ha]
        generalize hv : r.2.lp (mbF g lf) = v at *
        clear hend HR HQ HLp HC HGr hr hA hW7 hb hv
        cases v
        · go_wp2_with (go_at_call 54; refine hlp.mono ?_; rintro e5 W7 ⟨rfl, hb7⟩; have HS7 : Hid _ := HS.out W7 hb7; clear hb7 HS hlp c0 c1 c2 c3 c4 c5 c6 c7 cm)
          have hR : Hid (fiF (fun r : ByteArray × Ex => r.2.lp (mbF g lf)) (i + 1) (g.rules.drop (i + 1)) = RL) := HD.out
          exact ⟨⟨i + 1, by go_num, by omega, hR, HS7.out⟩, by simp [intOf]; omega⟩
        · go_wp2_with (go_at_call 54; refine hlp.mono ?_; rintro e5 W7 ⟨rfl, hb7⟩; have HS7 : Hid _ := HS.out W7 hb7; clear hb7 HS hlp c0 c1 c2 c3 c4 c5 c6 c7 cm)
          have hR : some i = RL := HD.out
          subst hR
          refine HG.out _ _ ⟨lf, HLe.out, (i : Int), 9, ?_, ?_, HS7.out.1.bel⟩
          · unfold WellN
            rw [HRR.out]
            exact ⟨rfl, rfl⟩
          · simp
  have hSK : SK w g W1 := ⟨k1.1, c1⟩
  have hlt1 : w.heap.size < W1.heap.size := k1.2.lt
  unfold SK at hSK
  go_region_held3 (fun w' => Below w.heap.size w w' ∧ w'.cell? ⟨w.heap.size, 0, none⟩ = some (.slice g.a g.rules.length g.c)) (first
    | exact SK.step (by assumption) hb2
    | exact SK.drew hSK
    | exact SK.drew (SK.alloc hSK _)
    | exact SK.alloc (SK.drew hSK) _
    | exact SK.alloc hS2 _
    | exact SK.alloc (SK.alloc hS2 _) _
    | exact SK.alloc (SK.alloc (SK.alloc hS2 _) _) _
    | exact SK.alloc (SK.alloc (SK.store hS2 _ hlt1 _) _) _) (first
    | (go_at_call 50; refine (hgr _ (And.left (by assumption))).mono ?_; rintro e W2 ⟨K, lf, rfl, hK, hF, hL, hb2⟩; have hS2 : SK w g W2 := SK.step (w := w) (g := g) (by assumption) hb2
       first
         | (have bz : BoxN W2 W1.heap.size 106 #[Value.nilFunc] := BoxN.below (show BoxN (W1.alloc (.cells #[Value.nilFunc] 106)).drew W1.heap.size 106 #[Value.nilFunc] from BoxN.new W1 106 _) hb2 (by show W1.heap.size < (W1.alloc _).heap.size; simp)
            have bz1 : W2.cell? ⟨W1.heap.size, 0, none⟩ = some Value.nilFunc := bz.cell 0
            have bz2 : W2.frozen? ⟨W1.heap.size, 0, none⟩ = false := by simp [World.frozen?, show W2.heap[W1.heap.size]? = _ from bz]
            have bz3 : W1.heap.size < W2.heap.size := bz.lt
            have bz4 : ∀ o1 o2, ((W2.alloc o1).alloc o2).cell? ⟨W1.heap.size, 0, none⟩ = some Value.nilFunc := fun o1 o2 => ((bz.alloc o1).alloc o2).cell 0
            have bz5 : ∀ o1 o2, ((W2.alloc o1).alloc o2).frozen? ⟨W1.heap.size, 0, none⟩ = false := fun o1 o2 => by
              have h : BoxN ((W2.alloc o1).alloc o2) W1.heap.size 106 #[Value.nilFunc] := (bz.alloc o1).alloc o2
              unfold BoxN at h
              unfold World.frozen?
              rw [h]
              rfl)
         | skip)
    | (go_at_call 52; refine (hbn _ _ _ _).mono ?_; rintro e W3 ⟨rfl, rfl⟩))
  all_goals
    have hlen := hL.pre.len
    have hb0 : BoxN W2 w.heap.size 24 #[.slice g.a g.rules.length g.c] := by
      first
        | exact BoxN.below (show BoxN W1.drew w.heap.size 24 #[.slice g.a g.rules.length g.c] from k1.2) hb2 hlt1
        | exact BoxN.below (show BoxN (W1.alloc (.cells #[Value.nilFunc] 106)).drew w.heap.size 24 #[.slice g.a g.rules.length g.c] from k1.2.alloc _) hb2 (by show w.heap.size < (W1.alloc _).heap.size; simp; omega)
    have hKK : W1.heap.size ≤ K := by
      first
        | exact hK
        | (have h5 : (W1.alloc (.cells #[Value.nilFunc] 106)).heap.size ≤ K := hK
           simp at h5
           omega)
    first
      | exact hrest _ _ _ _ _ hL (Wg.first HI.out hlen hS2.1 hb0 hF bz hlt1 (by
          have h5 : (W1.alloc (.cells #[Value.nilFunc] 106)).heap.size ≤ K := hK
          simp at h5
          omega))
      | exact hrest _ _ _ _ _ hL (Wg.mid HI.out hlen hS2.1 hb0 hF)
      | exact hrest _ _ _ _ _ hL (Wg.last HI.out hlen hS2.1 hb0 hF)
set_option maxRecDepth 20000 in
set_option maxHeartbeats 4000000 in
theorem well_no (g : Gr) (h0 : gcheck g.rules ≠ 0) (w : World) (hin : g.In w.heap.size w) : Calls Try.prog 28 #[g.val] w fun r W' => r = .returned (.tuple #[.int .i64 0, .int .i64 (gcheck g.rules)]) ∧ Below w.heap.size w W' := by
  have hA := (Below.refl w.heap.size w).alloc (Nat.le_refl _) (.cells #[.slice g.a g.rules.length g.c] 24)
  have hck := gcheck_any g _ (hin.grow hA)
  have HN : Hid (∀ W, Below (w.alloc (.cells #[.slice g.a g.rules.length g.c] 24)).heap.size (w.alloc (.cells #[.slice g.a g.rules.length g.c] 24)) W → Below w.heap.size w W) := fun W h => hA.trans (h.mono hA.size)
  have g1 : (gcheck g.rules != 0) = true := by simpa using h0
  rw [gval_eq] at hck ⊢
  generalize gcheck g.rules = C at *
  clear hA hin
  go_enter Try.func28, Try.ntmps28
  go_wp2_with (go_at_call 31; refine hck.mono ?_; rintro e W1 ⟨rfl, hb1⟩; have k1 := HN.out W1 hb1; clear hb1 hck)
  refine bodyPost_ret (by simp [results, Try.results28, go_sem]) rfl ⟨rfl, k1⟩
end Go.Proofs.Ytokdaapmejccbaa
