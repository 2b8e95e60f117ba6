import Derived.Test.YtokdaapmejccbaaFind
namespace Go.Proofs.Ytokdaapmejccbaa
open Go.RowKit
set_option linter.unusedVariables false
/-- What is wrong first with a rule. -/
def ruleChk (all : List (ByteArray × Ex)) (i : Nat) (r : ByteArray × Ex) : Int := if isName r.1.data.toList = false then 6 else if fnd all r.1 ≠ (i : Int) then 7 else check r.2
def gcells (g : Gr) : Array Value := #[.slice g.a g.rules.length g.c]
theorem gcells_eq (g : Gr) : gcells g = #[.slice g.a g.rules.length g.c] := rfl
set_option maxRecDepth 20000 in
set_option maxHeartbeats 2000000 in
theorem checkRule_any (g : Gr) (i : Nat) (r : ByteArray × Ex) (hr : g.rules[i]? = some r) (w : World) (hin : g.In w.heap.size w) :
    Calls Try.prog 59 #[g.val, .int .i64 i] w fun e W' => e = .returned (.int .i64 (ruleChk g.rules i r)) ∧ Below w.heap.size w W' := by
  have hlen := hin.len
  have hlt : i < g.rules.length := (List.getElem?_eq_some_iff.1 hr).1
  have hA := (Below.refl w.heap.size w).alloc (Nat.le_refl _) (.cells (gcells g) 24)
  have hA2 := hA.alloc hA.size (.cells (rcell r).toArray 76)
  have bG := (BoxN.new w 24 (gcells g)).alloc (.cells (rcell r).toArray 76)
  have bR := BoxN.new (w.alloc (.cells (gcells g) 24)) 76 (rcell r).toArray
  rw [World.size_alloc] at bR
  have hrin := (hin.below hA).rule i r hr
  obtain ⟨b, o, ha, hb, c0, c1, c2, c3, c4, c5, c6, c7⟩ := rcells hrin
  have hnm : ∀ W, _ := fun W => name_any r.1 W
  have HB2 : Hid (∀ {W : World}, Below ((w.alloc (.cells (gcells g) 24)).alloc (.cells (rcell r).toArray 76)).heap.size ((w.alloc (.cells (gcells g) 24)).alloc (.cells (rcell r).toArray 76)) W → Below w.heap.size w W ∧ BoxN W (w.heap.size + 1) 76 (rcell r).toArray) := fun h => ⟨hA2.trans (h.mono hA2.size), bR.below h (by simp)⟩
  have hfi := find_any g r.1 _ (hin.grow hA2)
  have hck : ∀ W, Below w.heap.size w W → _ := fun W h => check_any r.2 W (((hin.below h).rule i r hr).body.mono h.size)
  rw [val_eq] at hck
  rw [gval_eq] at hfi ⊢
  have HR : Hid (ruleChk g.rules i r = ruleChk g.rules i r) := rfl
  simp only [gcells_eq, rcell_eq] at hfi HB2
  rw [gcells_eq] at c0 c1 c2 c3 c4 c5 c6 c7
  rw [ha] at *
  clear hA hA2 bG bR hrin hb hin hr HR
  unfold ruleChk
  cases hn : isName r.1.data.toList with
  | false =>
    rw [if_pos rfl]
    rw [hn] at hnm
    clear hfi hck hn
    go_enter Try.func59, Try.ntmps59
    go_wp2_with (go_at_call 85; refine (hnm _).mono ?_; rintro e W1 ⟨rfl, rfl⟩)
    go_ret
    exact ⟨rfl, (HB2.out (Below.refl _ _)).1⟩
  | true =>
    rw [if_neg (by simp)]
    rw [hn] at hnm
    clear hn
    by_cases hf : fnd g.rules r.1 = (i : Int)
    · rw [if_neg (by simpa using hf)]
      rw [hf] at hfi
      clear hf
      go_enter Try.func59, Try.ntmps59
      go_wp2_with (first
        | (go_at_call 85; refine (hnm _).mono ?_; rintro e W1 ⟨rfl, rfl⟩)
        | (go_at_call 75; refine hfi.mono ?_; rintro e W2 ⟨rfl, hb2⟩; have k2 := HB2.out hb2; have cR := k2.2.cell; have hck2 := hck _ k2.1; clear hb2 hfi hck)
        | (go_at_call 86; refine hck2.mono ?_; rintro e W3 ⟨rfl, hb3⟩))
      go_ret
      exact ⟨rfl, k2.1.trans (hb3.mono k2.1.size)⟩
    · rw [if_pos hf]
      have g2 : (fnd g.rules r.1 == (i : Int)) = false := by simpa using hf
      have g3 : (fnd g.rules r.1 != (i : Int)) = true := by simpa using hf
      generalize fnd g.rules r.1 = q at *
      clear hf hck
      go_enter Try.func59, Try.ntmps59
      go_wp2_with (first
        | (go_at_call 85; refine (hnm _).mono ?_; rintro e W1 ⟨rfl, rfl⟩)
        | (go_at_call 75; refine hfi.mono ?_; rintro e W2 ⟨rfl, hb2⟩; have k2 := HB2.out hb2; clear hb2 hfi))
      go_ret
      exact ⟨rfl, k2.1⟩
end Go.Proofs.Ytokdaapmejccbaa
