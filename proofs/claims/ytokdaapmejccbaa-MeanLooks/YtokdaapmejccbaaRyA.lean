import Derived.Test.YtokdaapmejccbaaRma
import Derived.Test.YtokdaapmejccbaaRmo
import Derived.Test.YtokdaapmejccbaaMayW
import Derived.Test.YtokdaapmejccbaaEq
import Derived.WalkKit
import Derived.Below
import Derived.Deep.QuietTactic
import Derived.BigQuiet
import Derived.BigRegion
namespace Go.Proofs.Ytokdaapmejccbaa
open Go.RowKit
set_option linter.unusedVariables false
set_option linter.unusedSimpArgs false
/-- What the reference knows of a grammar's rules. -/
structure Ki (m : Nat) (W : World) (g : Gr) (l : List Fa) (K : Nat) : Prop where
  lK : K < m
  hm : m ≤ W.heap.size
  len : l.length = g.rules.length
  bK : FI W K 0 l
  gi : g.In m W
theorem Ki.grow {m : Nat} {W W' : World} {g : Gr} {l : List Fa} {K : Nat} (h : Ki m W g l K) (hb : Below W.heap.size W W') : Ki m W' g l K :=
  ⟨h.lK, Nat.le_trans h.hm hb.size, h.len, h.bK.below hb (Nat.lt_of_lt_of_le h.lK h.hm), h.gi.below (hb.mono h.hm)⟩
/-- What the reference's May does with an expression. -/
def RyC (g : Gr) (l : List Fa) (K c m : Nat) (e : Ex) : Prop := ∀ w : World, e.In w.heap.size w → Ki m w g l K →
  Calls Try.prog 69 #[g.val, .slice (some ⟨K, 0, none⟩) g.rules.length c, e.val] w fun r W' => r = .returned (.int .i64 (encF (e.may (ofL noF g.rules l)))) ∧ Below w.heap.size w W'
/-- The two boxes of the call. -/
structure Kb (w : World) (g : Gr) (e : Ex) (W : World) : Prop where
  bel : Below w.heap.size w W
  bg : BoxN W w.heap.size 24 #[.slice g.a g.rules.length g.c]
  be : BoxN W (w.heap.size + 1) 57 e.cells
theorem Kb.step {w : World} {g : Gr} {e : Ex} {W W' : World} (h : Kb w g e W) (hb : Below W.heap.size W W') : Kb w g e W' := ⟨h.bel.trans (hb.mono h.bel.size), h.bg.below hb h.bg.lt, h.be.below hb h.be.lt⟩
theorem Kb.new (w : World) (g : Gr) (e : Ex) : Kb w g e ((w.alloc (.cells #[.slice g.a g.rules.length g.c] 24)).alloc (.cells e.cells 57)) := by
  have h2 := BoxN.new (w.alloc (.cells #[.slice g.a g.rules.length g.c] 24)) 57 e.cells
  rw [World.size_alloc] at h2
  exact ⟨((Below.refl _ w).alloc (Nat.le_refl _) _).alloc (by simp) _, (BoxN.new w 24 _).alloc _, h2⟩
set_option maxRecDepth 20000 in
set_option maxHeartbeats 4000000 in
theorem ry_1 (g : Gr) (l : List Fa) (K c m : Nat) (e : Ex) (hk : e.k = 1) : RyC g l K c m e := fun w hin hK => by
  have hA := (Kb.new w g e).bel
  rw [cells_eq, hk] at hA
  rw [may_eq, if_pos hk, val_eq, gval_eq, hk]
  go_enter Try.func69, Try.ntmps69
  go_wp2_with fail
  go_ret
  exact ⟨rfl, hA⟩
set_option maxRecDepth 20000 in
set_option maxHeartbeats 4000000 in
theorem ry_2 (g : Gr) (l : List Fa) (K c m : Nat) (e : Ex) (hk : e.k = 2) : RyC g l K c m e := fun w hin hK => by
  have hA := (Kb.new w g e).bel
  rw [cells_eq, hk] at hA
  rw [may_eq, if_neg (by omega), if_pos hk, val_eq, gval_eq, hk]
  have he := eq_arr (wd e.S 0) (wd e.S 1) (wd e.S 2) (wd e.S 3) 0 0 0 0
  rw [show ((wd e.S 0 == 0) && ((wd e.S 1 == 0) && ((wd e.S 2 == 0) && (wd e.S 3 == 0)))) = noS e.S from rfl] at he
  cases hz : noS e.S
  all_goals
    rw [hz] at he
    clear hz
    go_enter Try.func69, Try.ntmps69
    go_wp2_with fail
    go_ret
    exact ⟨rfl, hA⟩
set_option maxRecDepth 20000 in
set_option maxHeartbeats 4000000 in
theorem ry_3 (g : Gr) (l : List Fa) (K c m : Nat) (e : Ex) (hk : e.k = 3) : RyC g l K c m e := fun w hin hK => by
  have hA := (Kb.new w g e).bel
  rw [cells_eq, hk] at hA
  rw [may_eq, if_neg (by omega), if_neg (by omega), if_pos hk, val_eq, gval_eq, hk]
  go_enter Try.func69, Try.ntmps69
  go_wp2_with fail
  go_ret
  exact ⟨rfl, hA⟩
set_option maxRecDepth 20000 in
set_option maxHeartbeats 4000000 in
theorem ry_4 (g : Gr) (l : List Fa) (K c m : Nat) (e : Ex) (hk : e.k = 4) (hs : IsRule g e.t) (hl : g.rules.length ≤ 10) : RyC g l K c m e := fun w hin hK => by
  obtain ⟨k, hfk, hkl⟩ := hs
  obtain ⟨f, hf⟩ : ∃ f, l[k]? = some f := ⟨_, List.getElem?_eq_getElem (by rw [hK.len]; exact hkl)⟩
  have hof : ofL noF g.rules l e.t = f := by unfold ofL; rw [hfk, Int.toNat_natCast, List.getD_eq_getElem?_getD, hf]; rfl
  have hKb := Kb.new w g e
  have hfi := rfind_any g e.t _ ((hK.grow hKb.bel).gi.mono (hK.grow hKb.bel).hm)
  have hst : Hid (∀ W', Below ((w.alloc (.cells #[.slice g.a g.rules.length g.c] 24)).alloc (.cells e.cells 57)).heap.size ((w.alloc (.cells #[.slice g.a g.rules.length g.c] 24)).alloc (.cells e.cells 57)) W' → Below w.heap.size w W' ∧ FI W' K 0 l) := fun W' hb => ⟨(hKb.step hb).bel, (hK.grow (hKb.step hb).bel).bK⟩
  have hlen := hK.len
  rw [hfk, gval_eq] at hfi
  rw [may_eq, if_neg (by omega), if_neg (by omega), if_neg (by omega), if_pos hk, val_eq, gval_eq, hof]
  have i0 : (0 : Int) ≤ (k : Int) := by omega
  have i1 : (k : Int) < (g.rules.length : Int) := by omega
  rw [cells_eq, hk] at hfi hst
  rw [hk]
  clear hKb hK hin hfk hk
  go_enter Try.func69, Try.ntmps69
  go_wp2_with (go_at_call 78; refine hfi.mono ?_; rintro r W1 ⟨rfl, hb⟩; have h1 := hst.out W1 hb; have c0 := h1.2 k f hf; rw [Nat.zero_add] at c0)
  go_ret
  exact ⟨rfl, h1.1⟩
end Go.Proofs.Ytokdaapmejccbaa
