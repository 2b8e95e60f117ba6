import Derived.Test.YtokdaapmejccbaaXGrow
import Derived.Deep.LoopGhost
import Derived.WalkKit
import Derived.Below
import Derived.Deep.QuietTactic
import Derived.BigQuiet
import Derived.BigRegion
namespace Go.Proofs.Ytokdaapmejccbaa
open Go.RowKit
set_option linter.unusedVariables false
set_option linter.unusedSimpArgs false
theorem wp_region_all {P : Program} {id : Nat} {Q : Exit → Act → World → Prop} {a : Act} {w : World} (C : World → Prop) (l : List Oper) (hm : P.follows .mixedOrders = true) (hB : Region.lexB .any l.toArray = true) (hC : C { w with drawn := w.drawn + 1 })
    (h : wpQuiet P l.toArray C (fun a' => ∀ w', C w' → Q .normal a' w') l a) : (Code.region id l.toArray true).wp P Q a w :=
  wp_region_quiet (C := C) hm hB hC (by simpa using h)
/-- A kid's copy. -/
structure Kc (w : World) (NB : Nat) (x : Ex) (W : World) : Prop where
  bel : Below w.heap.size w W
  b : BoxN W NB 57 x.cells
theorem Kc.step {w : World} {NB : Nat} {x : Ex} {W W' : World} (h : Kc w NB x W) (hb : Below W.heap.size W W') : Kc w NB x W' := ⟨h.bel.trans (hb.mono h.bel.size), h.b.below hb h.b.lt⟩
theorem Kc.cs {w : World} {NB : Nat} {x : Ex} {W : World} (h : Kc w NB x W) : W.cell? ⟨NB, 0, none⟩ = some (.int .i64 x.k) ∧ W.cell? ⟨NB, 1, none⟩ = some (.int .u64 (wd x.S 0)) ∧ W.cell? ⟨NB, 2, none⟩ = some (.int .u64 (wd x.S 1)) ∧ W.cell? ⟨NB, 3, none⟩ = some (.int .u64 (wd x.S 2)) ∧ W.cell? ⟨NB, 4, none⟩ = some (.int .u64 (wd x.S 3)) ∧ W.cell? ⟨NB, 5, none⟩ = some (.string x.t) ∧ W.cell? ⟨NB, 6, none⟩ = some (.slice x.a x.kids.length x.c) :=
  ⟨h.b.cell 0, h.b.cell 1, h.b.cell 2, h.b.cell 3, h.b.cell 4, h.b.cell 5, h.b.cell 6⟩
open Ex.lp (lpL)
open Ex.iw (iwL)
/-- What mayBeEmpty stands on. -/
structure Em (m : Nat) (W : World) (g : Gr) (l : List Fa) (kb gb K ob : Nat) : Prop where
  kn : Kn m W g l kb gb K
  lo : ob < m
  bo : BoxN W ob 106 #[ofv kb gb]
theorem Em.grow {m : Nat} {W W' : World} {g : Gr} {l : List Fa} {kb gb K ob : Nat} (h : Em m W g l kb gb K ob) (hb : Below W.heap.size W W') : Em m W' g l kb gb K ob :=
  ⟨h.kn.grow hb, h.lo, h.bo.below hb (Nat.lt_of_lt_of_le h.lo h.kn.hm)⟩
def mbv (ob : Nat) : Value := .func (.func 53) #[] #[.pointer (some ⟨ob, 0, none⟩)]
/-- May it be empty? -/
def mbF (g : Gr) (l : List Fa) (e : Ex) : Bool := (e.may (ofL noF g.rules l)).1
set_option maxRecDepth 20000 in
theorem field0 (a b c : Bool) (w : World) : (Instr.field 61 (.agg #[.bool a, .bool b, .bool c]) 0).run Try.prog w = .ok (.bool a) w := by rfl
set_option maxRecDepth 20000 in
set_option maxHeartbeats 4000000 in
theorem mb_any (g : Gr) (l : List Fa) (kb gb K m ob : Nat) (hl : g.rules.length ≤ 10) (e : Ex) (ho : e.Ok (IsRule g)) (w : World) (hin : e.In w.heap.size w) (hE : Em m w g l kb gb K ob) :
    Calls Try.prog 53 #[e.val, .pointer (some ⟨ob, 0, none⟩)] w fun r W' => r = .returned (.bool (mbF g l e)) ∧ Below w.heap.size w W' := by
  have hA := (Below.refl w.heap.size w).alloc (Nat.le_refl _) (.cells e.cells 57)
  have hE2 := hE.grow hA
  have c0 := hE2.bo.cell 0
  simp only [List.getElem?_toArray, List.getElem?_cons_zero] at c0
  have hm := may_any g l kb gb K m hl e ho _ (hin.grow hA) hE2.kn
  unfold mbF
  generalize e.may (ofL noF g.rules l) = F at *
  have hfd : ∀ W, _ := fun W => field0 F.1 F.2.1 F.2.2 W
  have HB : Hid (∀ W', Below (w.alloc (.cells e.cells 57)).heap.size (w.alloc (.cells e.cells 57)) W' → Below w.heap.size w W') := fun W' hb => hA.trans (hb.mono hA.size)
  rw [val_eq, fval_eta] at hm
  rw [val_eq]
  unfold ofv at c0 hm
  rw [cells_eq] at c0 hm HB
  clear hA hE2 hE hin ho
  go_enter Try.func53, Try.ntmps53
  go_wp2_with (go_at_call 51; refine hm.mono ?_; rintro r W1 ⟨rfl, hb⟩; have h5 := HB.out W1 hb)
  first
    | (go_ret
       exact ⟨rfl, h5⟩)
    | exact ⟨rfl, h5⟩
/-- What loops does. -/
def LpC (g : Gr) (l : List Fa) (kb gb K m ob : Nat) (e : Ex) : Prop := ∀ w : World, e.In w.heap.size w → Em m w g l kb gb K ob →
  Calls Try.prog 54 #[e.val, mbv ob] w fun r W' => r = .returned (.bool (e.lp (mbF g l))) ∧ Below w.heap.size w W'
theorem lpL_drop (mb : Ex → Bool) (rep : Bool) (kids : List Ex) (i : Nat) (x : Ex) (h : kids[i]? = some x) : lpL mb rep (kids.drop i) = ((rep && mb x || x.lp mb) || lpL mb rep (kids.drop (i + 1))) := by
  rw [drop_at _ _ _ h, lpL]
set_option maxRecDepth 20000 in
set_option maxHeartbeats 8000000 in
theorem loops_kids (g : Gr) (l : List Fa) (kb gb K m ob : Nat) (hl : g.rules.length ≤ 10) (e : Ex) (ho : e.Ok (IsRule g)) (ih : ∀ x ∈ e.kids, LpC g l kb gb K m ob x) : LpC g l kb gb K m ob e := fun w hin hE => by
  have hlen := hin.len
  have hA := (Below.refl w.heap.size w).alloc (Nat.le_refl _) (.cells e.cells 57)
  have bE := BoxN.new w 57 e.cells
  have HM : Hid (∀ x ∈ e.kids, ∀ W, Below w.heap.size w W → Calls Try.prog 53 #[x.val, .pointer (some ⟨ob, 0, none⟩)] W fun r W' => r = .returned (.bool (mbF g l x)) ∧ Below W.heap.size W W') := fun x hx W hb => by
    obtain ⟨j, hj⟩ := List.getElem?_of_mem hx
    exact mb_any g l kb gb K m ob hl x (ho.kid hx) W ((hin.kid hj).2.grow hb) (hE.grow hb)
  have HI : Hid (∀ x ∈ e.kids, ∀ W, Below w.heap.size w W → Calls Try.prog 54 #[x.val, mbv ob] W fun r W' => r = .returned (.bool (x.lp (mbF g l))) ∧ Below W.heap.size W W') := fun x hx W hb => by
    obtain ⟨j, hj⟩ := List.getElem?_of_mem hx
    exact ih x hx W ((hin.kid hj).2.grow hb) (hE.grow hb)
  have HC : Hid (∀ (i : Nat) (x : Ex), e.kids[i]? = some x → ∀ W, Below w.heap.size w W → ∃ b o, e.a = some ⟨b, o, none⟩ ∧ b < w.heap.size ∧ ∀ m, m < 7 → W.cell? ⟨b, o + i * 7 + m, none⟩ = x.cells[m]?) := fun i x hx W hb => by
    obtain ⟨⟨b, o, ha, hb2, hc⟩, _⟩ := hin.kid hx
    exact ⟨b, o, ha, hb2, fun m hm => (hb.cell (p := ⟨b, _, none⟩) hb2).trans (hc m hm)⟩
  have hk : ∃ rep, (decide (e.k = 7) || decide (e.k = 8)) = rep := ⟨_, rfl⟩
  obtain ⟨rep, hrep⟩ := hk
  obtain ⟨R, hR⟩ : ∃ R, e.lp (mbF g l) = R := ⟨_, rfl⟩
  rw [hR]
  have HR0 : Hid (lpL (mbF g l) rep (e.kids.drop 0) = R) := by rw [← hR, lp_eq, hrep]; rfl
  have H0 : Hid (Below w.heap.size w (w.alloc (.cells e.cells 57))) := hA
  generalize mbF g l = mb at *
  rw [val_eq]
  unfold mbv at HI ⊢
  rw [cells_eq] at H0
  have h3 : (e.k = 7 ∧ rep = true) ∨ (e.k = 8 ∧ rep = true) ∨ ((e.k == 7) = false ∧ (e.k == 8) = false ∧ rep = false) := by
    by_cases h7 : e.k = 7
    · left; rw [h7] at hrep; exact ⟨h7, by rw [← hrep]; rfl⟩
    · by_cases h8 : e.k = 8
      · right; left; rw [h8] at hrep; exact ⟨h8, by rw [← hrep]; rfl⟩
      · right; right; exact ⟨by simpa using h7, by simpa using h8, by rw [← hrep]; simp [h7, h8]⟩
  clear hin hE ih hrep hR hA bE ho hl
  rcases h3 with ⟨hk, rfl⟩ | ⟨hk, rfl⟩ | ⟨hk7, hk8, rfl⟩
  · rw [hk] at H0 ⊢
    clear hk
    go_enter Try.func54, Try.ntmps54
    go_wp2_with fail
    go_loopw [19] (fun p wr => ∃ i : Nat, p = .int .i64 i ∧ i ≤ e.kids.length ∧ Hid (lpL mb true (e.kids.drop i) = R) ∧ Hid (Below w.heap.size w wr)) (fun p _ => e.kids.length - (intOf p).toNat)
    case atStart => exact ⟨0, rfl, Nat.zero_le _, HR0, H0⟩
    case round =>
      clear HR0 H0
      obtain ⟨i, rfl, hi, HR, HQ⟩ := hrel
      by_cases hend : i = e.kids.length
      · have g1 : decide (i < e.kids.length) = false := by simp; omega
        have hR : false = R := by have := HR.out; rw [hend, List.drop_length, lpL] at this; exact this
        subst hR
        clear hend
        go_wp2_with fail
        first
          | (go_ret
             exact ⟨rfl, HQ.out⟩)
          | exact ⟨rfl, HQ.out⟩
      · have hlt : i < e.kids.length := by omega
        obtain ⟨x, hx⟩ : ∃ x, e.kids[i]? = some x := ⟨_, List.getElem?_eq_getElem hlt⟩
        obtain ⟨b, o, ha, hb, hc⟩ := HC.out i x hx wr HQ.out
        have c0 := hc 0 (by omega)
        have c1 := hc 1 (by omega)
        have c2 := hc 2 (by omega)
        have c3 := hc 3 (by omega)
        have c4 := hc 4 (by omega)
        have c5 := hc 5 (by omega)
        have c6 := hc 6 (by omega)
        rw [cells_eq] at c0 c1 c2 c3 c4 c5 c6
        simp only [List.getElem?_toArray, List.getElem?_cons_zero, List.getElem?_cons_succ, Nat.add_zero] at c0 c1 c2 c3 c4 c5 c6
        rw [ha]
        have hK0 : Kc w wr.heap.size x (wr.alloc (.cells x.cells 57)) := ⟨HQ.out.alloc HQ.out.size _, BoxN.new wr 57 _⟩
        rw [cells_eq] at hK0
        have hmb := HM.out x (List.mem_of_getElem? hx)
        have hlp := HI.out x (List.mem_of_getElem? hx)
        rw [val_eq] at hmb hlp
        have HD : Hid (((true && mb x || x.lp mb) || lpL mb true (e.kids.drop (i + 1))) = R) := by rw [← lpL_drop _ _ _ _ _ hx]; exact HR.out
        have HK : Hid (∀ W', Below (wr.alloc (.cells #[.int .i64 x.k, .int .u64 (wd x.S 0), .int .u64 (wd x.S 1), .int .u64 (wd x.S 2), .int .u64 (wd x.S 3), .string x.t, .slice x.a x.kids.length x.c] 57)).heap.size (wr.alloc (.cells #[.int .i64 x.k, .int .u64 (wd x.S 0), .int .u64 (wd x.S 1), .int .u64 (wd x.S 2), .int .u64 (wd x.S 3), .string x.t, .slice x.a x.kids.length x.c] 57)) W' → Kc w wr.heap.size x W') := fun W' hb => hK0.step hb
        have hB0 := hK0.bel
        generalize hv1 : mb x = v1 at *
        generalize hv2 : x.lp mb = v2 at *
        clear hc hend HR HM HI HC hv1 hv2 hx hb hK0 HQ ha
        cases v1 <;> cases v2
        all_goals
          go_wp2_with (first
            | (go_at_call 53; refine (hmb _ hB0).mono ?_; rintro e5 W1 ⟨rfl, hb1⟩; have hK1 := HK.out W1 hb1; obtain ⟨q0, q1, q2, q3, q4, q5, q6⟩ := hK1.cs; have hB1 := hK1.bel; have HB : Hid (Below w.heap.size w W1) := hB1; clear hK1 hb1)
            | (go_at_call 54; first
                | (refine (hlp _ hB1).mono ?_; rintro e5 W2 ⟨rfl, hb2⟩; have HB2 : Hid (Below w.heap.size w W2) := HB.out.trans (hb2.mono HB.out.size); clear hb2)
                | (refine (hlp _ hB0).mono ?_; rintro e5 W2 ⟨rfl, hb2⟩; have HB2 : Hid (Below w.heap.size w W2) := (HK.out W2 hb2).bel; clear hb2)))
          first
            | (have hR : true = R := HD.out
               subst hR
               first
                 | (go_ret
                    first
                      | exact ⟨rfl, HB2.out⟩
                      | exact ⟨rfl, HB.out⟩)
                 | exact ⟨rfl, HB2.out⟩
                 | exact ⟨rfl, HB.out⟩)
            | (have hR : Hid (lpL mb true (e.kids.drop (i + 1)) = R) := HD.out
               exact ⟨⟨i + 1, by go_num, by omega, hR, HB2⟩, by simp [intOf]; omega⟩)
  · rw [hk] at H0 ⊢
    clear hk
    go_enter Try.func54, Try.ntmps54
    go_wp2_with fail
    go_loopw [19] (fun p wr => ∃ i : Nat, p = .int .i64 i ∧ i ≤ e.kids.length ∧ Hid (lpL mb true (e.kids.drop i) = R) ∧ Hid (Below w.heap.size w wr)) (fun p _ => e.kids.length - (intOf p).toNat)
    case atStart => exact ⟨0, rfl, Nat.zero_le _, HR0, H0⟩
    case round =>
      clear HR0 H0
      obtain ⟨i, rfl, hi, HR, HQ⟩ := hrel
      by_cases hend : i = e.kids.length
      · have g1 : decide (i < e.kids.length) = false := by simp; omega
        have hR : false = R := by have := HR.out; rw [hend, List.drop_length, lpL] at this; exact this
        subst hR
        clear hend
        go_wp2_with fail
        first
          | (go_ret
             exact ⟨rfl, HQ.out⟩)
          | exact ⟨rfl, HQ.out⟩
      · have hlt : i < e.kids.length := by omega
        obtain ⟨x, hx⟩ : ∃ x, e.kids[i]? = some x := ⟨_, List.getElem?_eq_getElem hlt⟩
        obtain ⟨b, o, ha, hb, hc⟩ := HC.out i x hx wr HQ.out
        have c0 := hc 0 (by omega)
        have c1 := hc 1 (by omega)
        have c2 := hc 2 (by omega)
        have c3 := hc 3 (by omega)
        have c4 := hc 4 (by omega)
        have c5 := hc 5 (by omega)
        have c6 := hc 6 (by omega)
        rw [cells_eq] at c0 c1 c2 c3 c4 c5 c6
        simp only [List.getElem?_toArray, List.getElem?_cons_zero, List.getElem?_cons_succ, Nat.add_zero] at c0 c1 c2 c3 c4 c5 c6
        rw [ha]
        have hK0 : Kc w wr.heap.size x (wr.alloc (.cells x.cells 57)) := ⟨HQ.out.alloc HQ.out.size _, BoxN.new wr 57 _⟩
        rw [cells_eq] at hK0
        have hmb := HM.out x (List.mem_of_getElem? hx)
        have hlp := HI.out x (List.mem_of_getElem? hx)
        rw [val_eq] at hmb hlp
        have HD : Hid (((true && mb x || x.lp mb) || lpL mb true (e.kids.drop (i + 1))) = R) := by rw [← lpL_drop _ _ _ _ _ hx]; exact HR.out
        have HK : Hid (∀ W', Below (wr.alloc (.cells #[.int .i64 x.k, .int .u64 (wd x.S 0), .int .u64 (wd x.S 1), .int .u64 (wd x.S 2), .int .u64 (wd x.S 3), .string x.t, .slice x.a x.kids.length x.c] 57)).heap.size (wr.alloc (.cells #[.int .i64 x.k, .int .u64 (wd x.S 0), .int .u64 (wd x.S 1), .int .u64 (wd x.S 2), .int .u64 (wd x.S 3), .string x.t, .slice x.a x.kids.length x.c] 57)) W' → Kc w wr.heap.size x W') := fun W' hb => hK0.step hb
        have hB0 := hK0.bel
        generalize hv1 : mb x = v1 at *
        generalize hv2 : x.lp mb = v2 at *
        clear hc hend HR HM HI HC hv1 hv2 hx hb hK0 HQ ha
        cases v1 <;> cases v2
        all_goals
          go_wp2_with (first
            | (go_at_call 53; refine (hmb _ hB0).mono ?_; rintro e5 W1 ⟨rfl, hb1⟩; have hK1 := HK.out W1 hb1; obtain ⟨q0, q1, q2, q3, q4, q5, q6⟩ := hK1.cs; have hB1 := hK1.bel; have HB : Hid (Below w.heap.size w W1) := hB1; clear hK1 hb1)
            | (go_at_call 54; first
                | (refine (hlp _ hB1).mono ?_; rintro e5 W2 ⟨rfl, hb2⟩; have HB2 : Hid (Below w.heap.size w W2) := HB.out.trans (hb2.mono HB.out.size); clear hb2)
                | (refine (hlp _ hB0).mono ?_; rintro e5 W2 ⟨rfl, hb2⟩; have HB2 : Hid (Below w.heap.size w W2) := (HK.out W2 hb2).bel; clear hb2)))
          first
            | (have hR : true = R := HD.out
               subst hR
               first
                 | (go_ret
                    first
                      | exact ⟨rfl, HB2.out⟩
                      | exact ⟨rfl, HB.out⟩)
                 | exact ⟨rfl, HB2.out⟩
                 | exact ⟨rfl, HB.out⟩)
            | (have hR : Hid (lpL mb true (e.kids.drop (i + 1)) = R) := HD.out
               exact ⟨⟨i + 1, by go_num, by omega, hR, HB2⟩, by simp [intOf]; omega⟩)
  · go_enter Try.func54, Try.ntmps54
    go_wp2_with fail
    go_loopw [19] (fun p wr => ∃ i : Nat, p = .int .i64 i ∧ i ≤ e.kids.length ∧ Hid (lpL mb false (e.kids.drop i) = R) ∧ Hid (Below w.heap.size w wr)) (fun p _ => e.kids.length - (intOf p).toNat)
    case atStart => exact ⟨0, rfl, Nat.zero_le _, HR0, H0⟩
    case round =>
      clear HR0 H0
      obtain ⟨i, rfl, hi, HR, HQ⟩ := hrel
      by_cases hend : i = e.kids.length
      · have g1 : decide (i < e.kids.length) = false := by simp; omega
        have hR : false = R := by have := HR.out; rw [hend, List.drop_length, lpL] at this; exact this
        subst hR
        clear hend
        go_wp2_with fail
        first
          | (go_ret
             exact ⟨rfl, HQ.out⟩)
          | exact ⟨rfl, HQ.out⟩
      · have hlt : i < e.kids.length := by omega
        obtain ⟨x, hx⟩ : ∃ x, e.kids[i]? = some x := ⟨_, List.getElem?_eq_getElem hlt⟩
        obtain ⟨b, o, ha, hb, hc⟩ := HC.out i x hx wr HQ.out
        have c0 := hc 0 (by omega)
        have c1 := hc 1 (by omega)
        have c2 := hc 2 (by omega)
        have c3 := hc 3 (by omega)
        have c4 := hc 4 (by omega)
        have c5 := hc 5 (by omega)
        have c6 := hc 6 (by omega)
        rw [cells_eq] at c0 c1 c2 c3 c4 c5 c6
        simp only [List.getElem?_toArray, List.getElem?_cons_zero, List.getElem?_cons_succ, Nat.add_zero] at c0 c1 c2 c3 c4 c5 c6
        rw [ha]
        have hK0 : Kc w wr.heap.size x (wr.alloc (.cells x.cells 57)) := ⟨HQ.out.alloc HQ.out.size _, BoxN.new wr 57 _⟩
        rw [cells_eq] at hK0
        have hmb := HM.out x (List.mem_of_getElem? hx)
        have hlp := HI.out x (List.mem_of_getElem? hx)
        rw [val_eq] at hmb hlp
        have HD : Hid (((false && mb x || x.lp mb) || lpL mb false (e.kids.drop (i + 1))) = R) := by rw [← lpL_drop _ _ _ _ _ hx]; exact HR.out
        have HK : Hid (∀ W', Below (wr.alloc (.cells #[.int .i64 x.k, .int .u64 (wd x.S 0), .int .u64 (wd x.S 1), .int .u64 (wd x.S 2), .int .u64 (wd x.S 3), .string x.t, .slice x.a x.kids.length x.c] 57)).heap.size (wr.alloc (.cells #[.int .i64 x.k, .int .u64 (wd x.S 0), .int .u64 (wd x.S 1), .int .u64 (wd x.S 2), .int .u64 (wd x.S 3), .string x.t, .slice x.a x.kids.length x.c] 57)) W' → Kc w wr.heap.size x W') := fun W' hb => hK0.step hb
        have hB0 := hK0.bel
        generalize hv1 : mb x = v1 at *
        generalize hv2 : x.lp mb = v2 at *
        clear hc hend HR HM HI HC hv1 hv2 hx hb hK0 HQ ha
        cases v1 <;> cases v2
        all_goals
          go_wp2_with (first
            | (go_at_call 53; refine (hmb _ hB0).mono ?_; rintro e5 W1 ⟨rfl, hb1⟩; have hK1 := HK.out W1 hb1; obtain ⟨q0, q1, q2, q3, q4, q5, q6⟩ := hK1.cs; have hB1 := hK1.bel; have HB : Hid (Below w.heap.size w W1) := hB1; clear hK1 hb1)
            | (go_at_call 54; first
                | (refine (hlp _ hB1).mono ?_; rintro e5 W2 ⟨rfl, hb2⟩; have HB2 : Hid (Below w.heap.size w W2) := HB.out.trans (hb2.mono HB.out.size); clear hb2)
                | (refine (hlp _ hB0).mono ?_; rintro e5 W2 ⟨rfl, hb2⟩; have HB2 : Hid (Below w.heap.size w W2) := (HK.out W2 hb2).bel; clear hb2)))
          first
            | (have hR : true = R := HD.out
               subst hR
               first
                 | (go_ret
                    first
                      | exact ⟨rfl, HB2.out⟩
                      | exact ⟨rfl, HB.out⟩)
                 | exact ⟨rfl, HB2.out⟩
                 | exact ⟨rfl, HB.out⟩)
            | (have hR : Hid (lpL mb false (e.kids.drop (i + 1)) = R) := HD.out
               exact ⟨⟨i + 1, by go_num, by omega, hR, HB2⟩, by simp [intOf]; omega⟩)
end Go.Proofs.Ytokdaapmejccbaa
