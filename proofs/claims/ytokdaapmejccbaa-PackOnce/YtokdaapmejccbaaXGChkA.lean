import Derived.Test.YtokdaapmejccbaaXRexpr
import Derived.Deep.RegionHeld3
import Derived.Test.YtokdaapmejccbaaXPn
namespace Go.Proofs.Ytokdaapmejccbaa
open Go.RowKit
set_option linter.unusedVariables false
/-- The expression's box is as it was. -/
def KeepE (w : World) (N : Nat) (e : Ex) (w' : World) : Prop := Below w.heap.size w w' ∧ BoxN w' N 57 e.cells ∧ w'.cell? ⟨N, 0, none⟩ = some (.int .i64 e.k) ∧ w'.cell? ⟨N, 1, none⟩ = some (.int .u64 (wd e.S 0)) ∧ w'.cell? ⟨N, 2, none⟩ = some (.int .u64 (wd e.S 1)) ∧ w'.cell? ⟨N, 3, none⟩ = some (.int .u64 (wd e.S 2)) ∧ w'.cell? ⟨N, 4, none⟩ = some (.int .u64 (wd e.S 3)) ∧ w'.cell? ⟨N, 5, none⟩ = some (.string e.t) ∧ w'.cell? ⟨N, 6, none⟩ = some (.slice e.a e.kids.length e.c)
theorem keepE_of {w w' : World} {N : Nat} {e : Ex} (hB : Below w.heap.size w w') (hE : BoxN w' N 57 e.cells) : KeepE w N e w' :=
  ⟨hB, hE, by rw [hE.cell]; rfl, by rw [hE.cell]; rfl, by rw [hE.cell]; rfl, by rw [hE.cell]; rfl, by rw [hE.cell]; rfl, by rw [hE.cell]; rfl, by rw [hE.cell]; rfl⟩
theorem keepE_call {w W w' : World} {N : Nat} {e : Ex} (h : KeepE w N e W) (hb : Below W.heap.size W w') : KeepE w N e w' := keepE_of (h.1.trans (hb.mono h.1.size)) (h.2.1.below hb h.2.1.lt)
theorem keepE_drew {w w' : World} {N : Nat} {e : Ex} (h : KeepE w N e w') : KeepE w N e w'.drew := keepE_of h.1.drew h.2.1
theorem check_val (e : Ex) (w : World) (hin : e.In w.heap.size w) : ∀ W, KeepE w w.heap.size e W → Calls Try.prog 86 #[.agg #[.int .i64 e.k, .int .u64 (wd e.S 0), .int .u64 (wd e.S 1), .int .u64 (wd e.S 2), .int .u64 (wd e.S 3), .string e.t, .slice e.a e.kids.length e.c]] W fun r W' => r = .returned (.int .i64 (check e)) ∧ Below W.heap.size W W' :=
  fun W h => check_any e W (hin.grow h.1)
theorem rexpr_val (e : Ex) (w : World) (hin : e.In w.heap.size w) : ∀ W, KeepE w w.heap.size e W → Calls Try.prog 98 #[.agg #[.int .i64 e.k, .int .u64 (wd e.S 0), .int .u64 (wd e.S 1), .int .u64 (wd e.S 2), .int .u64 (wd e.S 3), .string e.t, .slice e.a e.kids.length e.c]] W fun r W' => r = .returned (.int .i64 (check e)) ∧ Below W.heap.size W W' :=
  fun W h => rexpr_any e W (hin.grow h.1)
end Go.Proofs.Ytokdaapmejccbaa
namespace Go.Proofs.Ytokdaapmejccbaa
open Go.RowKit
set_option linter.unusedVariables false
/-- A grammar, with where its rules lie. -/
structure Gr where
  mk ::
  (a : Option Addr) (c : Nat) (rules : List (ByteArray × Ex))
def Gr.val (g : Gr) : Value := .agg #[.slice g.a g.rules.length g.c]
theorem gval_eq (g : Gr) : g.val = .agg #[.slice g.a g.rules.length g.c] := rfl
/-- A rule's cells. -/
def rcell (r : ByteArray × Ex) : List Value := [.string r.1, .int .i64 r.2.k, .int .u64 (wd r.2.S 0), .int .u64 (wd r.2.S 1), .int .u64 (wd r.2.S 2), .int .u64 (wd r.2.S 3), .string r.2.t, .slice r.2.a r.2.kids.length r.2.c]
theorem rcell_eq (r : ByteArray × Ex) : rcell r = [.string r.1, .int .i64 r.2.k, .int .u64 (wd r.2.S 0), .int .u64 (wd r.2.S 1), .int .u64 (wd r.2.S 2), .int .u64 (wd r.2.S 3), .string r.2.t, .slice r.2.a r.2.kids.length r.2.c] := rfl
structure RuIn (n : Nat) (W : World) (a : Option Addr) (j : Nat) (r : ByteArray × Ex) : Prop where
  lies : ∃ b o, a = some ⟨b, o, none⟩ ∧ b < n ∧ ∀ m, m < 8 → W.cell? ⟨b, o + j * 8 + m, none⟩ = (rcell r)[m]?
  name : r.1.size ≤ 140737488355328
  body : r.2.In n W
/-- Its parts lie in blocks below n. -/
structure Gr.In (n : Nat) (W : World) (g : Gr) : Prop where
  len : g.rules.length ≤ 140737488355328
  rule : ∀ j r, g.rules[j]? = some r → RuIn n W g.a j r
theorem Gr.In.below {n : Nat} {A B : World} {g : Gr} (hb : Below n A B) (h : g.In n A) : g.In n B :=
  ⟨h.len, fun j r hr => by
    obtain ⟨⟨b, o, ha, hlt, hc⟩, h1, h2⟩ := h.rule j r hr
    exact ⟨⟨b, o, ha, hlt, fun m hm => (hb.cell (p := ⟨b, o + j * 8 + m, none⟩) hlt).trans (hc m hm)⟩, h1, h2.below hb⟩⟩
theorem Gr.In.mono {n m : Nat} {A : World} {g : Gr} (hm : n ≤ m) (h : g.In n A) : g.In m A :=
  ⟨h.len, fun j r hr => by
    obtain ⟨⟨b, o, ha, hlt, hc⟩, h1, h2⟩ := h.rule j r hr
    exact ⟨⟨b, o, ha, Nat.lt_of_lt_of_le hlt hm, hc⟩, h1, h2.mono hm⟩⟩
theorem Gr.In.grow {A B : World} {g : Gr} (h : g.In A.heap.size A) (hb : Below A.heap.size A B) : g.In B.heap.size B := (h.below hb).mono hb.size
/-- The first rule of a name. -/
def fndF : Nat → List (ByteArray × Ex) → ByteArray → Int
  | _, [], _ => -1
  | i, r :: l, s => if r.1 = s then (i : Int) else fndF (i + 1) l s
def fnd (l : List (ByteArray × Ex)) (s : ByteArray) : Int := fndF 0 l s
theorem drop_at {α : Type} (l : List α) (i : Nat) (x : α) (h : l[i]? = some x) : l.drop i = x :: l.drop (i + 1) := by
  obtain ⟨h1, h2⟩ := List.getElem?_eq_some_iff.1 h
  rw [List.drop_eq_getElem_cons h1, h2]
/-- What is said of a rule's cells, each by itself. -/
theorem rcells {n : Nat} {W : World} {a : Option Addr} {j : Nat} {r : ByteArray × Ex} (h : RuIn n W a j r) : ∃ b o, a = some ⟨b, o, none⟩ ∧ b < n ∧ W.cell? ⟨b, o + j * 8, none⟩ = some (.string r.1) ∧ W.cell? ⟨b, o + j * 8 + 1, none⟩ = some (.int .i64 r.2.k)
    ∧ W.cell? ⟨b, o + j * 8 + 2, none⟩ = some (.int .u64 (wd r.2.S 0)) ∧ W.cell? ⟨b, o + j * 8 + 3, none⟩ = some (.int .u64 (wd r.2.S 1)) ∧ W.cell? ⟨b, o + j * 8 + 4, none⟩ = some (.int .u64 (wd r.2.S 2)) ∧ W.cell? ⟨b, o + j * 8 + 5, none⟩ = some (.int .u64 (wd r.2.S 3))
    ∧ W.cell? ⟨b, o + j * 8 + 6, none⟩ = some (.string r.2.t) ∧ W.cell? ⟨b, o + j * 8 + 7, none⟩ = some (.slice r.2.a r.2.kids.length r.2.c) := by
  obtain ⟨b, o, ha, hb, hc⟩ := h.lies
  exact ⟨b, o, ha, hb, hc 0 (by omega), hc 1 (by omega), hc 2 (by omega), hc 3 (by omega), hc 4 (by omega), hc 5 (by omega), hc 6 (by omega), hc 7 (by omega)⟩
end Go.Proofs.Ytokdaapmejccbaa
namespace Go.Proofs.Ytokdaapmejccbaa
open Go.RowKit
set_option linter.unusedVariables false
theorem toList_ne {a b : ByteArray} (h : ¬ a = b) : (a.toList == b.toList) = false := by
  rw [beq_eq_false_iff_ne]
  intro e
  rw [ByteArray.toList_eq, ByteArray.toList_eq] at e
  exact h (Go.WideShapes.bytes_inj e)
set_option maxRecDepth 20000 in
set_option maxHeartbeats 2000000 in
theorem find_any (g : Gr) (s : ByteArray) (w : World) (hin : g.In w.heap.size w) :
    Calls Try.prog 75 #[g.val, .string s] w fun r W' => r = .returned (.int .i64 (fnd g.rules s)) ∧ Below w.heap.size w W' := by
  have hlen := hin.len
  have hA := (Below.refl w.heap.size w).alloc (Nat.le_refl _) (.cells #[.slice g.a g.rules.length g.c] 24)
  have HI : Hid (g.In w.heap.size w) := hin
  have HF : Hid (fndF 0 (g.rules.drop 0) s = fnd g.rules s) := rfl
  generalize fnd g.rules s = R at *
  rw [gval_eq]
  clear hin
  go_enter Try.func75, Try.ntmps75
  go_wp2_with fail
  go_loopw [10] (fun p wr => ∃ i : Nat, p = .int .i64 i ∧ i ≤ g.rules.length ∧ Hid (fndF i (g.rules.drop i) s = R) ∧ Hid (Below w.heap.size w wr)) (fun p _ => g.rules.length - (intOf p).toNat)
  case atStart => exact ⟨0, rfl, Nat.zero_le _, HF, hA⟩
  case round =>
    clear hA HF
    obtain ⟨i, rfl, hi, HR, HB⟩ := hrel
    by_cases hend : i = g.rules.length
    · have hR : (-1 : Int) = R := by
        have := HR.out
        rw [hend, List.drop_length, fndF] at this
        exact this
      have g1 : decide (i < g.rules.length) = false := by simp; omega
      subst hR
      clear hend
      go_wp2_with fail
      go_ret
      exact ⟨rfl, HB.out⟩
    · have hlt : i < g.rules.length := by omega
      clear hend
      obtain ⟨x, hx⟩ : ∃ x, g.rules[i]? = some x := ⟨_, List.getElem?_eq_getElem hlt⟩
      obtain ⟨b, o, ha, hb, c0, c1, c2, c3, c4, c5, c6, c7⟩ := rcells ((HI.out.below HB.out).rule i x hx)
      have HD : Hid (fndF i (x :: g.rules.drop (i + 1)) s = R) := by rw [← drop_at _ _ _ hx]; exact HR.out
      have HA : Hid (Below w.heap.size w (wr.alloc (.cells (rcell x).toArray 76))) := HB.out.alloc HB.out.size _
      rw [rcell_eq] at HA
      rw [ha]
      clear hx HR HB
      by_cases hs : x.1 = s
      · have hR : (i : Int) = R := by have := HD.out; rw [fndF, if_pos hs] at this; exact this
        have g2 : (x.1.toList == s.toList) = true := by rw [hs]; simp
        subst hR
        clear hs
        go_wp2_with fail
        go_ret
        exact ⟨rfl, HA.out⟩
      · have HR2 : Hid (fndF (i + 1) (g.rules.drop (i + 1)) s = R) := by have := HD.out; rw [fndF, if_neg hs] at this; exact this
        have g2 : (x.1.toList == s.toList) = false := toList_ne hs
        clear hs
        go_wp2_with fail
        exact ⟨⟨i + 1, by go_num, by omega, HR2, HA⟩, by simp [intOf]; omega⟩
set_option maxRecDepth 20000 in
set_option maxHeartbeats 2000000 in
theorem rfind_any (g : Gr) (s : ByteArray) (w : World) (hin : g.In w.heap.size w) :
    Calls Try.prog 78 #[g.val, .string s] w fun r W' => r = .returned (.int .i64 (fnd g.rules s)) ∧ Below w.heap.size w W' := by
  have hlen := hin.len
  have hA := (Below.refl w.heap.size w).alloc (Nat.le_refl _) (.cells #[.slice g.a g.rules.length g.c] 24)
  have bG := BoxN.new w 24 #[.slice g.a g.rules.length g.c]
  have HI : Hid (g.In w.heap.size w) := hin
  have HF : Hid (fndF 0 (g.rules.drop 0) s = fnd g.rules s) := rfl
  generalize fnd g.rules s = R at *
  rw [gval_eq]
  clear hin
  go_enter Try.func78, Try.ntmps78
  go_wp2_with fail
  go_loopw [9] (fun p wr => ∃ i : Nat, p = .int .i64 i ∧ i ≤ g.rules.length ∧ Hid (fndF i (g.rules.drop i) s = R) ∧ Hid (Below w.heap.size w wr) ∧ BoxN wr w.heap.size 24 #[.slice g.a g.rules.length g.c]) (fun p _ => g.rules.length - (intOf p).toNat)
  case atStart => exact ⟨0, rfl, Nat.zero_le _, HF, hA, bG⟩
  case round =>
    clear hA HF bG
    obtain ⟨i, rfl, hi, HR, HB, bG⟩ := hrel
    have cG := bG.cell 0
    simp only [List.getElem?_toArray, List.getElem?_cons_zero] at cG
    by_cases hend : i = g.rules.length
    · have hR : (-1 : Int) = R := by
        have := HR.out
        rw [hend, List.drop_length, fndF] at this
        exact this
      have g1 : decide (i < g.rules.length) = false := by simp; omega
      subst hR
      clear hend
      go_wp2_with fail
      go_ret
      exact ⟨rfl, HB.out⟩
    · have hlt : i < g.rules.length := by omega
      clear hend
      obtain ⟨x, hx⟩ : ∃ x, g.rules[i]? = some x := ⟨_, List.getElem?_eq_getElem hlt⟩
      obtain ⟨b, o, ha, hb, c0, c1, c2, c3, c4, c5, c6, c7⟩ := rcells ((HI.out.below HB.out).rule i x hx)
      have HD : Hid (fndF i (x :: g.rules.drop (i + 1)) s = R) := by rw [← drop_at _ _ _ hx]; exact HR.out
      have HA : Hid (Below w.heap.size w wr) := HB.out
      rw [ha] at cG bG ⊢
      clear hx HR HB
      by_cases hs : x.1 = s
      · have hR : (i : Int) = R := by have := HD.out; rw [fndF, if_pos hs] at this; exact this
        have g2 : (x.1.toList == s.toList) = true := by rw [hs]; simp
        subst hR
        clear hs
        go_wp2_with fail
        go_ret
        exact ⟨rfl, HA.out⟩
      · have HR2 : Hid (fndF (i + 1) (g.rules.drop (i + 1)) s = R) := by have := HD.out; rw [fndF, if_neg hs] at this; exact this
        have g2 : (x.1.toList == s.toList) = false := toList_ne hs
        clear hs
        go_wp2_with fail
        exact ⟨⟨i + 1, by go_num, by omega, HR2, HA, bG⟩, by simp [intOf]; omega⟩
end Go.Proofs.Ytokdaapmejccbaa
namespace Go.Proofs.Ytokdaapmejccbaa
open Go.RowKit
set_option linter.unusedVariables false
/-- What is wrong first with a rule. -/
def ruleChk (all : List (ByteArray × Ex)) (i : Nat) (r : ByteArray × Ex) : Int := if isName r.1.data.toList = false then 6 else if fnd all r.1 ≠ (i : Int) then 7 else check r.2
def gcells (g : Gr) : Array Value := #[.slice g.a g.rules.length g.c]
theorem gcells_eq (g : Gr) : gcells g = #[.slice g.a g.rules.length g.c] := rfl
set_option maxRecDepth 20000 in
set_option maxHeartbeats 2000000 in
theorem checkRule_any (g : Gr) (i : Nat) (r : ByteArray × Ex) (hr : g.rules[i]? = some r) (w : World) (hin : g.In w.heap.size w) :
    Calls Try.prog 59 #[g.val, .int .i64 i] w fun e W' => e = .returned (.int .i64 (ruleChk g.rules i r)) ∧ Below w.heap.size w W' := by
  have hlen := hin.len
  have hlt : i < g.rules.length := (List.getElem?_eq_some_iff.1 hr).1
  have hA := (Below.refl w.heap.size w).alloc (Nat.le_refl _) (.cells (gcells g) 24)
  have hA2 := hA.alloc hA.size (.cells (rcell r).toArray 76)
  have bG := (BoxN.new w 24 (gcells g)).alloc (.cells (rcell r).toArray 76)
  have bR := BoxN.new (w.alloc (.cells (gcells g) 24)) 76 (rcell r).toArray
  rw [World.size_alloc] at bR
  have hrin := (hin.below hA).rule i r hr
  obtain ⟨b, o, ha, hb, c0, c1, c2, c3, c4, c5, c6, c7⟩ := rcells hrin
  have hnm : ∀ W, _ := fun W => name_any r.1 W
  have HB2 : Hid (∀ {W : World}, Below ((w.alloc (.cells (gcells g) 24)).alloc (.cells (rcell r).toArray 76)).heap.size ((w.alloc (.cells (gcells g) 24)).alloc (.cells (rcell r).toArray 76)) W → Below w.heap.size w W ∧ BoxN W (w.heap.size + 1) 76 (rcell r).toArray) := fun h => ⟨hA2.trans (h.mono hA2.size), bR.below h (by simp)⟩
  have hfi := find_any g r.1 _ (hin.grow hA2)
  have hck : ∀ W, Below w.heap.size w W → _ := fun W h => check_any r.2 W (((hin.below h).rule i r hr).body.mono h.size)
  rw [val_eq] at hck
  rw [gval_eq] at hfi ⊢
  have HR : Hid (ruleChk g.rules i r = ruleChk g.rules i r) := rfl
  simp only [gcells_eq, rcell_eq] at hfi HB2
  rw [gcells_eq] at c0 c1 c2 c3 c4 c5 c6 c7
  rw [ha] at *
  clear hA hA2 bG bR hrin hb hin hr HR
  unfold ruleChk
  cases hn : isName r.1.data.toList with
  | false =>
    rw [if_pos rfl]
    rw [hn] at hnm
    clear hfi hck hn
    go_enter Try.func59, Try.ntmps59
    go_wp2_with (go_at_call 85; refine (hnm _).mono ?_; rintro e W1 ⟨rfl, rfl⟩)
    go_ret
    exact ⟨rfl, (HB2.out (Below.refl _ _)).1⟩
  | true =>
    rw [if_neg (by simp)]
    rw [hn] at hnm
    clear hn
    by_cases hf : fnd g.rules r.1 = (i : Int)
    · rw [if_neg (by simpa using hf)]
      rw [hf] at hfi
      clear hf
      go_enter Try.func59, Try.ntmps59
      go_wp2_with (first
        | (go_at_call 85; refine (hnm _).mono ?_; rintro e W1 ⟨rfl, rfl⟩)
        | (go_at_call 75; refine hfi.mono ?_; rintro e W2 ⟨rfl, hb2⟩; have k2 := HB2.out hb2; have cR := k2.2.cell; have hck2 := hck _ k2.1; clear hb2 hfi hck)
        | (go_at_call 86; refine hck2.mono ?_; rintro e W3 ⟨rfl, hb3⟩))
      go_ret
      exact ⟨rfl, k2.1.trans (hb3.mono k2.1.size)⟩
    · rw [if_pos hf]
      have g2 : (fnd g.rules r.1 == (i : Int)) = false := by simpa using hf
      have g3 : (fnd g.rules r.1 != (i : Int)) = true := by simpa using hf
      generalize fnd g.rules r.1 = q at *
      clear hf hck
      go_enter Try.func59, Try.ntmps59
      go_wp2_with (first
        | (go_at_call 85; refine (hnm _).mono ?_; rintro e W1 ⟨rfl, rfl⟩)
        | (go_at_call 75; refine hfi.mono ?_; rintro e W2 ⟨rfl, hb2⟩; have k2 := HB2.out hb2; clear hb2 hfi))
      go_ret
      exact ⟨rfl, k2.1⟩
end Go.Proofs.Ytokdaapmejccbaa
