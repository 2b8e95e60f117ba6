import Derived.Test.YtokdaapmejccbaaXPgG
import Derived.Test.YtokdaapmejccbaaXGChkA
import Derived.WalkKit
import Derived.Below
import Derived.Laws.Tables
import Derived.Laws.Rows
import Derived.Test.YtokdaapmejccbaaXIsWell
import Derived.Laws.MakeOwn
import Derived.Deep.LoopGhost
import Derived.Deep.QuietTactic
import Derived.BigQuiet
import Derived.BigRegion
namespace Go.Proofs.Ytokdaapmejccbaa
open Go.RowKit
set_option linter.unusedVariables false
/-! A trier, where it lies, and what it keeps. -/
/-- An outcome's cells. -/
def ocells (p : Nat) : Ot → Array Value
  | none => #[.bool false, .int .i64 0]
  | some q => #[.bool true, .int .i64 ((q : Int) - p)]
def oval (p : Nat) (o : Ot) : Value := .agg (ocells p o)
def thrownV : Ending := .panicked [{ v := .iface 133 (.agg #[]), recovered := false }]
/-- What a trier's call may turn: the blocks of X, and what is new. -/
structure Kpx (X : World → Nat → Prop) (W W' : World) : Prop where
  os : W'.os = W.os
  tape : W'.tape = W.tape
  output : W'.output = W.output
  size : W.heap.size ≤ W'.heap.size
  keep : ∀ k, k < W.heap.size → ¬ X W k → W'.heap[k]? = W.heap[k]? ∧ ¬ X W' k
theorem Kpx.refl (X : World → Nat → Prop) (W : World) : Kpx X W W := ⟨rfl, rfl, rfl, Nat.le_refl _, fun _ _ h => ⟨rfl, h⟩⟩
theorem Kpx.trans {X : World → Nat → Prop} {A B C : World} (h : Kpx X A B) (k : Kpx X B C) : Kpx X A C :=
  ⟨k.os.trans h.os, k.tape.trans h.tape, k.output.trans h.output, Nat.le_trans h.size k.size, fun i hi hx => by
    obtain ⟨h1, h2⟩ := h.keep i hi hx
    obtain ⟨k1, k2⟩ := k.keep i (Nat.lt_of_lt_of_le hi h.size) h2
    exact ⟨k1.trans h1, k2⟩⟩
/-- A step of a caller's own: what lies below N, and what X says, stays. -/
structure Lox (N : Nat) (X : World → Nat → Prop) (W W' : World) : Prop where
  os : W'.os = W.os
  tape : W'.tape = W.tape
  output : W'.output = W.output
  size : W.heap.size ≤ W'.heap.size
  keep : ∀ k, k < W.heap.size → (k < N ∨ X W k) → W'.heap[k]? = W.heap[k]?
/-- What the trier at ⟨tb, tO⟩ keeps: its three cells, and a state. -/
structure Envx (σ : Type) (T : ByteArray) (tb tO N : Nat) (rv tv : Value) (J : σ → World → Prop) (X : World → Nat → Prop) : Prop where
  c0 : ∀ {x W}, J x W → W.cell? ⟨tb, tO, none⟩ = some (.string T)
  c1 : ∀ {x W}, J x W → W.cell? ⟨tb, tO + 1, none⟩ = some rv
  c2 : ∀ {x W}, J x W → W.cell? ⟨tb, tO + 2, none⟩ = some tv
  bx : ∀ {x W k}, J x W → X W k → N ≤ k ∧ k < W.heap.size
  lt : ∀ {x W}, J x W → N ≤ W.heap.size
  lo : ∀ {x W W'}, J x W → Lox N X W W' → J x W' ∧ ∀ k, X W' k → X W k
section
variable {σ : Type} {T : ByteArray} {tb tO N : Nat} {rv tv : Value} {J : σ → World → Prop} {X : World → Nat → Prop}
/-- In the middle of a call that began in w0. -/
structure Mdx (N : Nat) (J : σ → World → Prop) (X : World → Nat → Prop) (x : σ) (w0 W : World) : Prop where
  j : J x W
  kp : Kpx X w0 W
theorem Mdx.start {x : σ} {w : World} (h : J x w) : Mdx N J X x w w := ⟨h, Kpx.refl X w⟩
theorem Mdx.alloc (E : Envx σ T tb tO N rv tv J X) {x : σ} {w0 W : World} (h : Mdx N J X x w0 W) (o : Obj) : Mdx N J X x w0 (W.alloc o) := by
  obtain ⟨h1, h2⟩ := E.lo h.j (W' := W.alloc o) ⟨rfl, rfl, rfl, by simp, fun k hk _ => Below.heap_alloc W o k hk⟩
  exact ⟨h1, h.kp.trans ⟨rfl, rfl, rfl, by simp, fun k hk hx => ⟨Below.heap_alloc W o k hk, fun h => hx (h2 k h)⟩⟩⟩
theorem Mdx.drew {x : σ} (E : Envx σ T tb tO N rv tv J X) {w0 W : World} (h : Mdx N J X x w0 W) : Mdx N J X x w0 W.drew := by
  obtain ⟨h1, h2⟩ := E.lo h.j (W' := W.drew) ⟨rfl, rfl, rfl, Nat.le_refl _, fun k hk _ => rfl⟩
  exact ⟨h1, h.kp.trans ⟨rfl, rfl, rfl, Nat.le_refl _, fun k hk hx => ⟨rfl, fun h => hx (h2 k h)⟩⟩⟩
theorem Mdx.below (E : Envx σ T tb tO N rv tv J X) {x : σ} {w0 W W' : World} (h : Mdx N J X x w0 W) (hb : Below W.heap.size W W') : Mdx N J X x w0 W' := by
  obtain ⟨h1, h2⟩ := E.lo h.j (W' := W') ⟨hb.os, hb.tape, hb.output, hb.size, fun k hk _ => hb.block k hk⟩
  exact ⟨h1, h.kp.trans ⟨hb.os, hb.tape, hb.output, hb.size, fun k hk hx => ⟨hb.block k hk, fun h => hx (h2 k h)⟩⟩⟩
theorem Mdx.call {x y : σ} {w0 W W' : World} (h : Mdx N J X x w0 W) (hj : J y W') (hk : Kpx X W W') : Mdx N J X y w0 W' := ⟨hj, h.kp.trans hk⟩
/-- A box of one's own. -/
structure Obx (X : World → Nat → Prop) (w0 W : World) (B : Nat) (cs : Array Value) : Prop where
  box : BoxN W B 29 cs
  no : ¬ X W B
  ge : w0.heap.size ≤ B
theorem Obx.new (E : Envx σ T tb tO N rv tv J X) {x : σ} {w0 W : World} (h : Mdx N J X x w0 W) (cs : Array Value) : Obx X w0 (W.alloc (.cells cs 29)) W.heap.size cs := by
  obtain ⟨-, h2⟩ := E.lo h.j (W' := W.alloc (.cells cs 29)) ⟨rfl, rfl, rfl, by simp, fun k hk _ => Below.heap_alloc W _ k hk⟩
  exact ⟨BoxN.new W 29 cs, fun h3 => Nat.lt_irrefl _ (E.bx h.j (h2 _ h3)).2, h.kp.size⟩
theorem Obx.alloc (E : Envx σ T tb tO N rv tv J X) {x : σ} {w0 W : World} {B : Nat} {cs : Array Value} (hM : Mdx N J X x w0 W) (h : Obx X w0 W B cs) (o : Obj) : Obx X w0 (W.alloc o) B cs := by
  obtain ⟨-, h2⟩ := E.lo hM.j (W' := W.alloc o) ⟨rfl, rfl, rfl, by simp, fun k hk _ => Below.heap_alloc W _ k hk⟩
  exact ⟨h.box.alloc o, fun h3 => h.no (h2 _ h3), h.ge⟩
theorem Obx.drew (E : Envx σ T tb tO N rv tv J X) {x : σ} {w0 W : World} {B : Nat} {cs : Array Value} (hM : Mdx N J X x w0 W) (h : Obx X w0 W B cs) : Obx X w0 W.drew B cs := by
  obtain ⟨-, h2⟩ := E.lo hM.j (W' := W.drew) ⟨rfl, rfl, rfl, Nat.le_refl _, fun k hk _ => rfl⟩
  exact ⟨h.box, fun h3 => h.no (h2 _ h3), h.ge⟩
theorem Obx.below (E : Envx σ T tb tO N rv tv J X) {x : σ} {w0 W W' : World} {B : Nat} {cs : Array Value} (hM : Mdx N J X x w0 W) (h : Obx X w0 W B cs) (hb : Below W.heap.size W W') : Obx X w0 W' B cs := by
  obtain ⟨-, h2⟩ := E.lo hM.j (W' := W') ⟨hb.os, hb.tape, hb.output, hb.size, fun k hk _ => hb.block k hk⟩
  exact ⟨h.box.below hb h.box.lt, fun h3 => h.no (h2 _ h3), h.ge⟩
theorem Obx.call {w0 W W' : World} {B : Nat} {cs : Array Value} (h : Obx X w0 W B cs) (hk : Kpx X W W') : Obx X w0 W' B cs :=
  ⟨(hk.keep B h.box.lt h.no).1.trans h.box, (hk.keep B h.box.lt h.no).2, h.ge⟩
/-- A whole outcome stored into such a box. -/
theorem Mdx.store (E : Envx σ T tb tO N rv tv J X) {x : σ} {w0 W W' : World} {B : Nat} {cs cs' : Array Value} (hM : Mdx N J X x w0 W) (hN : N ≤ w0.heap.size) (h : Obx X w0 W B cs) (hb : BoxN W' B 29 cs') (hg : W.grownBy W' (some B)) : Mdx N J X x w0 W' ∧ Obx X w0 W' B cs' := by
  obtain ⟨h1, h2⟩ := E.lo hM.j (W' := W') ⟨hg.os, hg.tape, hg.output, hg.size, fun k hk hx => hg.block k hk (fun e => by
    cases e
    rcases hx with hx | hx
    · have := h.ge; omega
    · exact h.no hx)⟩
  refine ⟨⟨h1, hg.os.trans hM.kp.os, hg.tape.trans hM.kp.tape, hg.output.trans hM.kp.output, Nat.le_trans hM.kp.size hg.size, fun k hk hx => ?_⟩, hb, fun h3 => h.no (h2 _ h3), h.ge⟩
  obtain ⟨k1, k2⟩ := hM.kp.keep k hk hx
  exact ⟨(hg.block k (Nat.lt_of_lt_of_le hk hM.kp.size) (fun e => by cases e; have := h.ge; omega)).trans k1, fun h3 => k2 (h2 _ h3)⟩
/-- .. another box stored into. -/
theorem Obx.other (E : Envx σ T tb tO N rv tv J X) {x : σ} {w0 W W' : World} {B B' : Nat} {cs cs' : Array Value} (hM : Mdx N J X x w0 W) (hN : N ≤ w0.heap.size) (h : Obx X w0 W B cs) (h' : Obx X w0 W B' cs') (hne : B ≠ B') (hg : W.grownBy W' (some B')) : Obx X w0 W' B cs := by
  obtain ⟨h1, h2⟩ := E.lo hM.j (W' := W') ⟨hg.os, hg.tape, hg.output, hg.size, fun k hk hx => hg.block k hk (fun e => by
    cases e
    rcases hx with hx | hx
    · have := h'.ge; omega
    · exact h'.no hx)⟩
  exact ⟨h.box.kept hg (fun e => hne (by cases e; rfl)), fun h3 => h.no (h2 _ h3), h.ge⟩
/-- What lies below N stays. -/
theorem Kpx.low (E : Envx σ T tb tO N rv tv J X) {x : σ} {W W' : World} (hj : J x W) (h : Kpx X W W') : Below N W W' :=
  ⟨h.os, h.tape, h.output, h.size, fun k hk => (h.keep k (Nat.lt_of_lt_of_le hk (E.lt hj)) (fun hx => by have := (E.bx hj hx).1; omega)).1⟩
end
/-- An expression, where it lies. -/
structure Nd0 (N : Nat) (W : World) (e : Ex) (nb no : Nat) : Prop where
  inn : e.In N W
  lt : nb < N
  c : ∀ m, m < 7 → W.cell? ⟨nb, no + m, none⟩ = e.cells[m]?
theorem Nd0.below {N : Nat} {A B : World} {e : Ex} {nb no : Nat} (h : Nd0 N A e nb no) (hb : Below N A B) : Nd0 N B e nb no := ⟨h.inn.below hb, h.lt, fun m hm => (hb.cell (p := ⟨nb, no + m, none⟩) h.lt).trans (h.c m hm)⟩
theorem Nd0.kid {N : Nat} {W : World} {e : Ex} (h : e.In N W) {j : Nat} {y : Ex} (hj : e.kids[j]? = some y) : ∃ b o, e.a = some ⟨b, o, none⟩ ∧ Nd0 N W y b (o + j * 7) := by
  obtain ⟨⟨b, o, ha, hb, hc⟩, hi⟩ := h.kid hj
  exact ⟨b, o, ha, hi, hb, fun m hm => hc m hm⟩
section
variable {σ : Type}
/-- What comes of a call. -/
def TryR (J : σ → World → Prop) (X : World → Nat → Prop) (p : Nat) (r : Option (Ot × σ)) (W : World) (e : Ending) (W' : World) : Prop :=
  match r with
  | none => e = thrownV ∧ Kpx X W W' ∧ ∃ y, J y W'
  | some (o, y) => e = .returned (oval p o) ∧ Kpx X W W' ∧ J y W'
/-- What trying does, with so much fuel. -/
def TryC (g : Gr) (T : ByteArray) (tb tO N : Nat) (J : σ → World → Prop) (X : World → Nat → Prop) (I : σ → Prop) (F : Ex → Nat → σ → Rg σ) (fn : Nat) : Prop :=
  ∀ (e : Ex) (p : Nat) (x : σ) (r : Option (Ot × σ)) (W : World) (nb no : Nat), e.Ok (IsRule g) → Nd0 N W e nb no → p ≤ T.size → J x W → I x → F e p x = some r →
    Calls Try.prog fn #[.pointer (some ⟨tb, tO, none⟩), .pointer (some ⟨nb, no, none⟩), .int .i64 (p : Int)] W (TryR J X p r W)
/-- What is so of what comes: the state is right, and it ends farther on, in the text. -/
def Bnd (g : Gr) (len : Nat) (I : σ → Prop) (F : Ex → Nat → σ → Rg σ) : Prop := ∀ (e : Ex) (p : Nat) (x : σ) (o : Ot) (y : σ), e.Ok (IsRule g) → p ≤ len → I x → F e p x = some (some (o, y)) → I y ∧ ∀ q, o = some q → p ≤ q ∧ q ≤ len
end
end Go.Proofs.Ytokdaapmejccbaa
namespace Go.Proofs.Ytokdaapmejccbaa
open Go.RowKit
set_option linter.unusedVariables false
set_option linter.unusedSimpArgs false
theorem Try.info4 : (Try.prog.info? 4).map (fun i => (i.zero, i.size, i.bytes)) = some (some (.bool false), 1, 1) := by kernel_rfl
theorem made_bool (n : Nat) : madeCells (Value.bool false).cells (n * 1) = mcs (List.replicate n false) := by
  unfold madeCells mcs
  refine Array.ext (by simp) fun i h1 h2 => ?_
  simp [Value.cells, Nat.mod_one]
theorem make_marks (n : Nat) (hn : n ≤ 10) (w : World) : (Instr.makeSlice 110 (.int .i64 (n : Int)) (.int .i64 (n : Int))).run Try.prog w = .ok (.slice (some ⟨w.heap.size, 0, none⟩) n n) (w.alloc (.cells (mcs (List.replicate n false)) 4)) := by
  obtain ⟨i0, hi, hz⟩ : ∃ i0, Try.prog.info? 4 = some i0 ∧ (i0.zero, i0.size, i0.bytes) = (some (.bool false), 1, 1) := by
    simpa [Option.map_eq_some_iff] using Try.info4
  simp only [Prod.mk.injEq] at hz
  obtain ⟨hz0, hz1, hz2⟩ := hz
  have := run_makeSlice (P := Try.prog) w 110 4 i0 (.bool false) Try.underlying110 hi hz0 .i64 .i64 n n (by omega) (by omega) (by rw [hz1]; simp; omega) (by rw [hz2]; omega) (by omega)
  rw [hz1] at this
  simp only [Int.toNat_natCast] at this
  rw [made_bool] at this
  exact this
theorem Mk.put {W : World} {B : Nat} {m : List Bool} (h : Mk W B m) (i : Nat) (b : Bool) : Mk (W.setCell ⟨B, i, none⟩ (.bool b)) B (m.set i b) := by
  have := Go.Lib.heap_setCell_same (w := W) (b := B) (i := i) h (.bool b)
  unfold Mk BoxN
  rw [this]
  rw [show (mcs m).setIfInBounds i (.bool b) = mcs (m.set i b) from by unfold mcs; simp [List.map_set]]
set_option maxRecDepth 20000 in
set_option maxHeartbeats 4000000 in
theorem byNameB_any (g : Gr) (ka : Option Addr) (kn kc : Nat) (w : World) : Calls Try.prog 84 #[.agg #[.slice g.a g.rules.length g.c], .slice ka kn kc] w fun r W' => r = .returned (ofb (w.heap.size + 1) w.heap.size) ∧ W' = (w.alloc (.cells #[.slice g.a g.rules.length g.c] 24)).alloc (.cells #[.slice ka kn kc] 110) := by
  have hmf : ∀ (fn : Fn) (first cap : Array Value) (w : World), (Instr.makeFunc fn first cap).run Try.prog w = .ok (.func fn first cap) w := fun _ _ _ _ => rfl
  unfold ofb
  go_enter Try.func84, Try.ntmps84
  go_wp2_with fail
  go_ret
  exact ⟨rfl, rfl⟩
/-- What grow keeps, of marks. -/
structure Gb (w : World) (g : Gr) (l : List Bool) (W : World) : Prop where
  bel : Below w.heap.size w W
  b0 : BoxN W w.heap.size 24 #[.slice g.a g.rules.length g.c]
  x : Mk W (w.heap.size + 1) l
  bg : BoxN W (w.heap.size + 1 + 1) 24 #[.slice g.a g.rules.length g.c]
  bk : BoxN W (w.heap.size + 1 + 1 + 1) 110 #[.slice (some ⟨w.heap.size + 1, 0, none⟩) g.rules.length g.rules.length]
theorem Gb.step {w : World} {g : Gr} {l : List Bool} {W W' : World} (h : Gb w g l W) (hb : Below W.heap.size W W') : Gb w g l W' :=
  ⟨h.bel.trans (hb.mono h.bel.size), h.b0.below hb h.b0.lt, BoxN.below h.x hb h.x.lt, h.bg.below hb h.bg.lt, h.bk.below hb h.bk.lt⟩
theorem Gb.drewN {w : World} {g : Gr} {l : List Bool} {W : World} (h : Gb w g l W) (n : Nat) : Gb w g l (W.drewN n) := h.step ⟨rfl, rfl, rfl, Nat.le_refl _, fun _ _ => rfl⟩
theorem Gb.kn {w : World} {g : Gr} {l : List Bool} {W : World} (h : Gb w g l W) (hin : g.In w.heap.size w) (hl : l.length = g.rules.length) : Kw2 (w.heap.size + 1 + 1 + 1 + 1) W g l (w.heap.size + 1 + 1 + 1) (w.heap.size + 1 + 1) (w.heap.size + 1) :=
  ⟨by omega, by omega, by omega, by have := h.bk.lt; omega, hl, h.bk, h.bg, h.x, (hin.below h.bel).mono (by omega)⟩
theorem Gb.set {w : World} {g : Gr} {l : List Bool} {W : World} (h : Gb w g l W) (i : Nat) (f : Bool) : Gb w g (l.set i f) (W.setCell ⟨w.heap.size + 1, i, none⟩ (.bool f)) := by
  have kb : ∀ (W : World) (o : Nat) (v : Value) (B : Nat) (t : TypeId) (cs : Array Value), B ≠ w.heap.size + 1 → BoxN W B t cs → BoxN (W.setCell ⟨w.heap.size + 1, o, none⟩ v) B t cs := fun W o v B t cs hne hb => hb.kept (Go.Lib.grownBy_setCell _ _ _ _) (fun e => hne (Option.some.inj e))
  exact ⟨h.bel.setCell (by simp) _, kb _ _ _ _ _ _ (by omega) h.b0, h.x.put i f, kb _ _ _ _ _ _ (by omega) h.bg, kb _ _ _ _ _ _ (by omega) h.bk⟩
theorem Gb.new (w : World) (g : Gr) : Gb w g (List.replicate g.rules.length false) ((((w.alloc (.cells #[.slice g.a g.rules.length g.c] 24)).alloc (.cells (mcs (List.replicate g.rules.length false)) 4)).alloc (.cells #[.slice g.a g.rules.length g.c] 24)).alloc (.cells #[.slice (some ⟨w.heap.size + 1, 0, none⟩) g.rules.length g.rules.length] 110)) := by
  have h1 := BoxN.new (w.alloc (.cells #[.slice g.a g.rules.length g.c] 24)) 4 (mcs (List.replicate g.rules.length false))
  rw [World.size_alloc] at h1
  have h2 := BoxN.new ((w.alloc (.cells #[.slice g.a g.rules.length g.c] 24)).alloc (.cells (mcs (List.replicate g.rules.length false)) 4)) 24 #[.slice g.a g.rules.length g.c]
  have h3 := BoxN.new (((w.alloc (.cells #[.slice g.a g.rules.length g.c] 24)).alloc (.cells (mcs (List.replicate g.rules.length false)) 4)).alloc (.cells #[.slice g.a g.rules.length g.c] 24)) 110 #[.slice (some ⟨w.heap.size + 1, 0, none⟩) g.rules.length g.rules.length]
  rw [World.size_alloc, World.size_alloc] at h2
  rw [World.size_alloc, World.size_alloc, World.size_alloc] at h3
  exact ⟨((((Below.refl _ w).alloc (Nat.le_refl _) _).alloc (by simp) _).alloc (by simp; omega) _).alloc (by simp; omega) _, (((BoxN.new w 24 _).alloc _).alloc _).alloc _, (h1.alloc _).alloc _, h2.alloc _, h3⟩
/-- What grow answers, of marks. -/
structure GrowB (g : Gr) (mb : Ex → Bool) (w : World) (r : Ending) (W' : World) : Prop where
  out : ∃ B m, r = .returned (.slice (some ⟨B, 0, none⟩) g.rules.length g.rules.length) ∧ w.heap.size ≤ B ∧ Mk W' B m ∧ Least bLe g.rules.length (wst g.rules mb) m ∧ Below w.heap.size w W'
set_option maxRecDepth 20000 in
set_option maxHeartbeats 8000000 in
theorem growB_any (g : Gr) (hok : GOk g.rules) (lf : List Fa) (kb gb K m ob mo : Nat) (w : World) (hin : g.In w.heap.size w) (hE : Em m w g lf kb gb K ob) (hMo : BoxN w mo 108 #[mbv ob]) :
    Calls Try.prog 55 #[g.val, .func (.func 56) #[] #[.pointer (some ⟨mo, 0, none⟩)]] w (GrowB g (mbF g lf) w) := by
  have HG : Hid (∀ r W', (∃ B m, r = .returned (.slice (some ⟨B, 0, none⟩) g.rules.length g.rules.length) ∧ w.heap.size ≤ B ∧ Mk W' B m ∧ Least bLe g.rules.length (wst g.rules (mbF g lf)) m ∧ Below w.heap.size w W') → GrowB g (mbF g lf) w r W') := fun r W' h => ⟨h⟩
  generalize GrowB g (mbF g lf) w = PP at *
  have h10 := hok.most
  have hmk : ∀ W, _ := fun W => make_marks g.rules.length h10 W
  have hbn := byNameB_any g (some ⟨w.heap.size + 1, 0, none⟩) g.rules.length g.rules.length ((w.alloc (.cells #[.slice g.a g.rules.length g.c] 24)).alloc (.cells (mcs (List.replicate g.rules.length false)) 4))
  rw [show ((w.alloc (.cells #[.slice g.a g.rules.length g.c] 24)).alloc (.cells (mcs (List.replicate g.rules.length false)) 4)).heap.size = w.heap.size + 1 + 1 from by simp] at hbn
  have hG0 : Hid _ := Gb.new w g
  have HM : Hid (∀ (l : List Bool) (i : Nat) (r : ByteArray × Ex), l.length = g.rules.length → g.rules[i]? = some r → ∀ W, Gb w g l W → Calls Try.prog 56 #[r.2.val, ofb (w.heap.size + 1 + 1 + 1) (w.heap.size + 1 + 1), .pointer (some ⟨mo, 0, none⟩)] W fun e W' => e = .returned (.bool (wst g.rules (mbF g lf) l i)) ∧ Below W.heap.size W W') := fun l i r hl hr W hs => by
    rw [wst_at hr]
    exact follows_any g lf l kb gb K m ob _ _ _ _ mo h10 r.2 (body_ok hok hr) W (((hin.below hs.bel).rule i r hr).body.mono hs.bel.size) (hE.grow hs.bel) (hs.kn hin hl) (hMo.below hs.bel hMo.lt)
  have HC : Hid (∀ (i : Nat) (r : ByteArray × Ex), g.rules[i]? = some r → ∀ W, Below w.heap.size w W → RuIn w.heap.size W g.a i r) := fun i r hr W hb => (hin.below hb).rule i r hr
  have HR0 : Hid (Sofar bLe g.rules.length (wst g.rules (mbF g lf)) (List.replicate g.rules.length false)) := bot_sofar no_le
  have HMo : Hid (Mono bLe g.rules.length (wst g.rules (mbF g lf))) := wst_mono g.rules (mbF g lf)
  rw [gval_eq]
  unfold ofb at HM hbn
  generalize wst g.rules (mbF g lf) = st at *
  clear hin hok hE hMo
  go_enter Try.func55, Try.ntmps55
  go_wp2_with (go_at_call 84; refine hbn.mono ?_; rintro e W1 ⟨rfl, hW1⟩; rw [← hW1] at hG0; clear hW1 hbn)
  clear hmk
  go_loopg [7] (1 * g.rules.length + 1) (fun gk p wr => ∃ (b : Bool) (l : List Bool), p = .bool b ∧ Hid (Gb w g l wr ∧ Sofar bLe g.rules.length st l ∧ (b = false → Least bLe g.rules.length st l) ∧ (b = true → 1 * g.rules.length + 1 ≤ gk + rkL bRk l)))
  case atStart => exact ⟨true, _, rfl, hG0.out, HR0.out, (fun h => by cases h), fun _ => by omega⟩
  case round =>
    clear hG0 HR0
    obtain ⟨b, l, rfl, HQ⟩ := hrel
    have hll := HQ.out.2.1.len
    have hx := HQ.out.1.x
    cases b with
    | false =>
      have hL : Hid (Least bLe g.rules.length st l) := HQ.out.2.2.1 rfl
      clear HM HC HMo hx
      go_wp2_with fail
      exact HG.out _ _ ⟨_, l, rfl, Nat.le_succ _, HQ.out.1.x, hL.out, HQ.out.1.bel⟩
    | true =>
      have hgk : Hid (1 * g.rules.length + 1 ≤ gk + rkL bRk l) := HQ.out.2.2.2 rfl
      have cG : wr.cell? ⟨w.heap.size, 0, none⟩ = some (.slice g.a g.rules.length g.c) := HQ.out.1.b0.cell 0
      have HL : Hid (Round bLe bRk g.rules.length st l 0 l false ∧ Gb w g l wr) := ⟨Round.start HQ.out.2.1, HQ.out.1⟩
      clear HQ hx
      go_wp2_with fail
      clear cG
      go_loopw [7, 22] (fun p q wr => ∃ (b : Bool) (i : Nat) (l' : List Bool), p = .bool b ∧ q = .int .i64 i ∧ i ≤ g.rules.length ∧ Hid (Round bLe bRk g.rules.length st l i l' b ∧ Gb w g l' wr)) (fun _ q _ => g.rules.length - (intOf q).toNat)
      case atStart => exact ⟨false, 0, l, rfl, rfl, Nat.zero_le _, HL⟩
      case round =>
        clear HL
        obtain ⟨b, i, l', rfl, rfl, hi, HQ⟩ := hrel
        by_cases hend : i = g.rules.length
        · have g1 : decide (i < g.rules.length) = false := by simp; omega
          clear HM HC
          have hfin : Hid (∃ k, k < gk ∧ Gb w g l' wr ∧ Sofar bLe g.rules.length st l' ∧ (b = false → Least bLe g.rules.length st l') ∧ (b = true → 1 * g.rules.length + 1 ≤ k + rkL bRk l')) := by
            have hr := HQ.out.1
            rw [hend] at hr
            have hm := rkL_most bLat l
            rw [hll] at hm
            have hg := hgk.out
            refine ⟨gk - 1, by omega, HQ.out.2, hr.so, fun hb => ?_, fun hb => ?_⟩
            · rw [hb] at hr; exact hr.fin bLat
            · have := hr.yes hb; omega
          obtain ⟨k, hk1, hk2⟩ := hfin.out
          have HK : Hid _ := hk2
          clear hend HQ hfin hk2 hgk
          go_wp2_with fail
          go_roundg k
          case measure => exact hk1
          case rel => exact ⟨b, l', rfl, HK.out⟩
        · have hlt : i < g.rules.length := by omega
          obtain ⟨r, hr⟩ : ∃ r, g.rules[i]? = some r := ⟨_, List.getElem?_eq_getElem hlt⟩
          obtain ⟨bb, o, ha, hb, c0, c1, c2, c3, c4, c5, c6, c7⟩ := rcells (HC.out i r hr wr HQ.out.2.bel)
          have hll' := HQ.out.1.so.len
          obtain ⟨f, hf⟩ : ∃ f, l'[i]? = some f := ⟨_, List.getElem?_eq_getElem (by rw [hll']; exact hlt)⟩
          have hA := (Below.refl _ wr).alloc (Nat.le_refl _) (.cells (rcell r).toArray 76)
          have hm := HM.out l' i r hll' hr _ (HQ.out.2.step hA)
          rw [val_eq] at hm
          rw [rcell_eq] at hm
          rw [ha]
          clear HC HM hend
          have HS : Hid (∀ W', Below (wr.alloc (.cells (rcell r).toArray 76)).heap.size (wr.alloc (.cells (rcell r).toArray 76)) W' → Gb w g l' W') := fun W' hb => (HQ.out.2.step hA).step hb
          have HN : Hid (∀ more' : Bool, (more' = true ↔ b = true ∨ st l' i ≠ f) → Round bLe bRk g.rules.length st l (i + 1) (l'.set i (st l' i)) more') := fun m' hm' => HQ.out.1.next bLat HMo.out hf hm'
          rw [rcell_eq] at HS
          have HF : Hid (l'[i]? = some f) := hf
          generalize st l' i = nw at *
          have i0 : (0 : Int) ≤ (i : Int) := by omega
          have i1 : (i : Int) < (g.rules.length : Int) := by omega
          clear HQ hr hf hA hb HMo hgk
          cases b
          all_goals
            go_wp2_with (go_at_call 56; refine hm.mono ?_; rintro e W2 ⟨rfl, hb⟩
                         have hS := HS.out W2 hb
                         have q0 := Mk.cell hS.x HF.out
                         have f0 := Mk.frozen hS.x i
                         have H3 : Hid _ := hS
                         clear hb HS c0 c1 c2 c3 c4 c5 c6 c7 hS hm)
            first
              | exact ⟨⟨true, i + 1, l'.set i nw, rfl, by go_num, by omega, HN.out true (by simp), H3.out.set i nw⟩, by simp [intOf]; omega⟩
              | exact ⟨⟨_, i + 1, l'.set i nw, rfl, by go_num, by omega, HN.out _ (by cases nw <;> cases f <;> simp), H3.out.set i nw⟩, by simp [intOf]; omega⟩
end Go.Proofs.Ytokdaapmejccbaa
