import Derived.Test.YtokdaapmejccbaaXLoops
import Derived.Test.YtokdaapmejccbaaXGrow
import Derived.Deep.LoopGhost
import Derived.WalkKit
import Derived.Below
import Derived.Deep.QuietTactic
import Derived.BigQuiet
import Derived.BigRegion
namespace Go.Proofs.Ytokdaapmejccbaa
open Go.RowKit
set_option linter.unusedVariables false
set_option linter.unusedSimpArgs false
open Ex.lp (lpL)
open Ex.iw (iwL)
def ofb (kb gb : Nat) : Value := .func (.func 112) #[] #[.pointer (some ⟨kb, 0, none⟩), .pointer (some ⟨gb, 0, none⟩)]
/-- Marks of a grammar's rules, and how a closure finds them. -/
structure Kw2 (m : Nat) (W : World) (g : Gr) (l : List Bool) (kb gb K : Nat) : Prop where
  lk : kb < m
  lg : gb < m
  lK : K < m
  hm : m ≤ W.heap.size
  len : l.length = g.rules.length
  bk : BoxN W kb 110 #[.slice (some ⟨K, 0, none⟩) g.rules.length g.rules.length]
  bg : BoxN W gb 24 #[.slice g.a g.rules.length g.c]
  bK : Mk W K l
  gi : g.In m W
theorem Kw2.grow {m : Nat} {W W' : World} {g : Gr} {l : List Bool} {kb gb K : Nat} (h : Kw2 m W g l kb gb K) (hb : Below W.heap.size W W') : Kw2 m W' g l kb gb K :=
  ⟨h.lk, h.lg, h.lK, Nat.le_trans h.hm hb.size, h.len, h.bk.below hb h.bk.lt, h.bg.below hb h.bg.lt, BoxN.below h.bK hb h.bK.lt, h.gi.below (hb.mono h.hm)⟩
set_option maxRecDepth 20000 in
set_option maxHeartbeats 4000000 in
theorem ofWell_any (g : Gr) (l : List Bool) (kb gb K m : Nat) (s : ByteArray) (hs : IsRule g s) (hl : g.rules.length ≤ 10) (w : World) (hk : Kw2 m w g l kb gb K) :
    Calls Try.prog 112 #[.string s, .pointer (some ⟨kb, 0, none⟩), .pointer (some ⟨gb, 0, none⟩)] w fun r W' => r = .returned (.bool (ofL false g.rules l s)) ∧ Below w.heap.size w W' := by
  obtain ⟨k, hfk, hkl⟩ := hs
  obtain ⟨f, hf⟩ : ∃ f, l[k]? = some f := ⟨_, List.getElem?_eq_getElem (by rw [hk.len]; exact hkl)⟩
  have hof : ofL false g.rules l s = f := by unfold ofL; rw [hfk, Int.toNat_natCast, List.getD_eq_getElem?_getD, hf]; rfl
  rw [hof]
  have hfin : ∀ W, Kw2 m W g l kb gb K → Calls Try.prog 75 #[.agg #[.slice g.a g.rules.length g.c], .string s] W fun r W' => r = .returned (.int .i64 (k : Int)) ∧ Below W.heap.size W W' := fun W h => by
    have := find_any g s W (h.gi.mono h.hm)
    rw [hfk] at this
    exact this
  have hKn : Hid (∀ W, Below w.heap.size w W → Kw2 m W g l kb gb K) := fun W hb => hk.grow hb
  have i0 : (0 : Int) ≤ (k : Int) := by omega
  have i1 : (k : Int) < (g.rules.length : Int) := by omega
  go_enter Try.func112, Try.ntmps112
  go_wp2_with fail
  refine wp_region_lit (fun W => Below w.heap.size w W) _ _ (by kernel_rfl) rfl (by kernel_rfl) (by kernel_rfl) (Below.refl _ w).drew ?_
  dsimp only [List.dropLast]
  repeat (first
    | go_big_quiet_skip
    | (go_big_quiet_want
       apply Exists.intro
       refine ⟨fun W hW => ?_, ?_⟩
       · have hn := hKn.out W hW
         have q0 : W.cell? ⟨kb, 0, none⟩ = some (.slice (some ⟨K, 0, none⟩) g.rules.length g.rules.length) := hn.bk.cell 0
         have q1 : W.cell? ⟨gb, 0, none⟩ = some (.slice g.a g.rules.length g.c) := hn.bg.cell 0
         have q2 := Mk.cell hn.bK hf
         unfold Oper.quietAt
         go_simp
         first
           | with_reducible exact rfl
           | with_reducible exact ⟨rfl, rfl⟩
           | (go_at_call 75
              refine (hfin W hn).mono ?_
              rintro e W1 ⟨rfl, hb⟩
              exact ⟨rfl, hW.trans (hb.mono hW.size)⟩)
       go_big_quiet_on
       simp only [Act.put, List.setIfInBounds_toArray, List.set_cons_zero, List.set_cons_succ]))
  refine wpQuiet_nil ?_
  intro W hW
  rw [if_pos (by rfl)]
  go_simp
  go_wp2_with fail
  first
    | (go_ret
       exact ⟨rfl, hW⟩)
    | exact ⟨rfl, hW⟩
/-- What isWell does. -/
def IwC (g : Gr) (l : List Fa) (lb : List Bool) (kb gb K m ob kb2 gb2 K2 m2 : Nat) (e : Ex) : Prop := ∀ w : World, e.In w.heap.size w → Em m w g l kb gb K ob → Kw2 m2 w g lb kb2 gb2 K2 →
  Calls Try.prog 57 #[e.val, mbv ob, ofb kb2 gb2] w fun r W' => r = .returned (.bool (e.iw (mbF g l) (ofL false g.rules lb))) ∧ Below w.heap.size w W'
theorem iwL_drop (mb : Ex → Bool) (R : ByteArray → Bool) (sq : Bool) (kids : List Ex) (i : Nat) (x : Ex) (h : kids[i]? = some x) : iwL mb R sq (kids.drop i) = if x.iw mb R = false then false else if sq && !mb x then true else iwL mb R sq (kids.drop (i + 1)) := by
  rw [drop_at _ _ _ h, iwL]
set_option maxRecDepth 20000 in
set_option maxHeartbeats 4000000 in
theorem isWell_ref (g : Gr) (l : List Fa) (lb : List Bool) (kb gb K m ob kb2 gb2 K2 m2 : Nat) (hl : g.rules.length ≤ 10) (e : Ex) (ho : e.Ok (IsRule g)) (hk : e.k = 4) : IwC g l lb kb gb K m ob kb2 gb2 K2 m2 e := fun w hin hE hW => by
  have hA := (Below.refl w.heap.size w).alloc (Nat.le_refl _) (.cells e.cells 57)
  have hor := ofWell_any g lb kb2 gb2 K2 m2 e.t (((ok_eq _ e).1 ho).2.1 hk) hl _ (hW.grow hA)
  have HB : Hid (∀ W', Below (w.alloc (.cells e.cells 57)).heap.size (w.alloc (.cells e.cells 57)) W' → Below w.heap.size w W') := fun W' hb => hA.trans (hb.mono hA.size)
  rw [iw_eq, if_pos hk, val_eq, hk]
  rw [cells_eq, hk] at hor HB
  unfold mbv ofb
  clear hA
  go_enter Try.func57, Try.ntmps57
  go_wp2_with (go_at_call 112; refine hor.mono ?_; rintro r W1 ⟨rfl, hb⟩; have h5 := HB.out W1 hb)
  first
    | (go_ret
       exact ⟨rfl, h5⟩)
    | exact ⟨rfl, h5⟩
set_option maxRecDepth 20000 in
set_option maxHeartbeats 8000000 in
theorem isWell_kids (g : Gr) (l : List Fa) (lb : List Bool) (kb gb K m ob kb2 gb2 K2 m2 : Nat) (hl : g.rules.length ≤ 10) (e : Ex) (ho : e.Ok (IsRule g)) (hk : e.k ≠ 4) (ih : ∀ x ∈ e.kids, IwC g l lb kb gb K m ob kb2 gb2 K2 m2 x) : IwC g l lb kb gb K m ob kb2 gb2 K2 m2 e := fun w hin hE hW => by
  have hlen := hin.len
  have hA := (Below.refl w.heap.size w).alloc (Nat.le_refl _) (.cells e.cells 57)
  have bE := BoxN.new w 57 e.cells
  have HM : Hid (∀ x ∈ e.kids, ∀ W, Below w.heap.size w W → Calls Try.prog 53 #[x.val, .pointer (some ⟨ob, 0, none⟩)] W fun r W' => r = .returned (.bool (mbF g l x)) ∧ Below W.heap.size W W') := fun x hx W hb => by
    obtain ⟨j, hj⟩ := List.getElem?_of_mem hx
    exact mb_any g l kb gb K m ob hl x (ho.kid hx) W ((hin.kid hj).2.grow hb) (hE.grow hb)
  have HI : Hid (∀ x ∈ e.kids, ∀ W, Below w.heap.size w W → Calls Try.prog 57 #[x.val, mbv ob, ofb kb2 gb2] W fun r W' => r = .returned (.bool (x.iw (mbF g l) (ofL false g.rules lb))) ∧ Below W.heap.size W W') := fun x hx W hb => by
    obtain ⟨j, hj⟩ := List.getElem?_of_mem hx
    exact ih x hx W ((hin.kid hj).2.grow hb) (hE.grow hb) (hW.grow hb)
  have HC : Hid (∀ (i : Nat) (x : Ex), e.kids[i]? = some x → ∀ W, Below w.heap.size w W → ∃ b o, e.a = some ⟨b, o, none⟩ ∧ b < w.heap.size ∧ ∀ m, m < 7 → W.cell? ⟨b, o + i * 7 + m, none⟩ = x.cells[m]?) := fun i x hx W hb => by
    obtain ⟨⟨b, o, ha, hb2, hc⟩, _⟩ := hin.kid hx
    exact ⟨b, o, ha, hb2, fun m hm => (hb.cell (p := ⟨b, _, none⟩) hb2).trans (hc m hm)⟩
  obtain ⟨R, hR⟩ : ∃ R, e.iw (mbF g l) (ofL false g.rules lb) = R := ⟨_, rfl⟩
  rw [hR]
  obtain ⟨sq, hsq⟩ : ∃ sq, decide (e.k = 5) = sq := ⟨_, rfl⟩
  have HR0 : Hid (iwL (mbF g l) (ofL false g.rules lb) sq (e.kids.drop 0) = R) := by rw [← hR, iw_eq, if_neg hk, hsq]; rfl
  have H0 : Hid (Below w.heap.size w (w.alloc (.cells e.cells 57)) ∧ BoxN (w.alloc (.cells e.cells 57)) w.heap.size 57 e.cells) := ⟨hA, bE⟩
  generalize mbF g l = mb at *
  generalize ofL false g.rules lb = Rb at *
  have g4 : (e.k == 4) = false := by simpa using hk
  have g5 : (e.k == 5) = sq := by rw [← hsq]; by_cases h : e.k = 5 <;> simp [h]
  rw [val_eq]
  unfold mbv ofb at HI ⊢
  rw [cells_eq] at H0
  clear hin hE hW ih hR hA bE ho hl hk hsq
  cases sq
  · go_enter Try.func57, Try.ntmps57
    go_wp2_with fail
    go_loopw [19] (fun p wr => ∃ i : Nat, p = .int .i64 i ∧ i ≤ e.kids.length ∧ Hid (iwL mb Rb false (e.kids.drop i) = R) ∧ Hid (Below w.heap.size w wr ∧ BoxN wr w.heap.size 57 e.cells)) (fun p _ => e.kids.length - (intOf p).toNat)
    case atStart => exact ⟨0, rfl, Nat.zero_le _, HR0, H0⟩
    case round =>
      clear HR0 H0
      obtain ⟨i, rfl, hi, HR, HQ0⟩ := hrel
      have HQ : Hid (Below w.heap.size w wr) := HQ0.out.1
      by_cases hend : i = e.kids.length
      · have g1 : decide (i < e.kids.length) = false := by simp; omega
        have hR : true = R := by have := HR.out; rw [hend, List.drop_length, iwL] at this; exact this
        subst hR
        clear hend
        go_wp2_with fail
        first
          | (go_ret
             exact ⟨rfl, HQ.out⟩)
          | exact ⟨rfl, HQ.out⟩
      · have hlt : i < e.kids.length := by omega
        obtain ⟨x, hx⟩ : ∃ x, e.kids[i]? = some x := ⟨_, List.getElem?_eq_getElem hlt⟩
        obtain ⟨b, o, ha, hb, hc⟩ := HC.out i x hx wr HQ.out
        have c0 := hc 0 (by omega)
        have c1 := hc 1 (by omega)
        have c2 := hc 2 (by omega)
        have c3 := hc 3 (by omega)
        have c4 := hc 4 (by omega)
        have c5 := hc 5 (by omega)
        have c6 := hc 6 (by omega)
        rw [cells_eq] at c0 c1 c2 c3 c4 c5 c6
        simp only [List.getElem?_toArray, List.getElem?_cons_zero, List.getElem?_cons_succ, Nat.add_zero] at c0 c1 c2 c3 c4 c5 c6
        rw [ha]
        have hK0 : Kc w wr.heap.size x (wr.alloc (.cells x.cells 57)) := ⟨HQ.out.alloc HQ.out.size _, BoxN.new wr 57 _⟩
        rw [cells_eq] at hK0
        have hmb := HM.out x (List.mem_of_getElem? hx)
        have hlp := HI.out x (List.mem_of_getElem? hx)
        rw [val_eq] at hmb hlp
        have HD : Hid ((if x.iw mb Rb = false then false else if false && !mb x then true else iwL mb Rb false (e.kids.drop (i + 1))) = R) := by rw [← iwL_drop _ _ _ _ _ _ hx]; exact HR.out
        have HK : Hid (∀ W', Below (wr.alloc (.cells #[.int .i64 x.k, .int .u64 (wd x.S 0), .int .u64 (wd x.S 1), .int .u64 (wd x.S 2), .int .u64 (wd x.S 3), .string x.t, .slice x.a x.kids.length x.c] 57)).heap.size (wr.alloc (.cells #[.int .i64 x.k, .int .u64 (wd x.S 0), .int .u64 (wd x.S 1), .int .u64 (wd x.S 2), .int .u64 (wd x.S 3), .string x.t, .slice x.a x.kids.length x.c] 57)) W' → Kc w wr.heap.size x W' ∧ BoxN W' w.heap.size 57 e.cells) := fun W' hb => ⟨hK0.step hb, (HQ0.out.2.alloc _).below hb (by have := HQ0.out.2.lt; simp; omega)⟩
        have hB0 := hK0.bel
        generalize hv1 : mb x = v1 at *
        generalize hv2 : x.iw mb Rb = v2 at *
        clear hc hend HR HM HI HC hv1 hv2 hx hb hK0 HQ HQ0 ha
        cases v1 <;> cases v2
        all_goals
          go_wp2_with (first
            | (go_at_call 57; refine (hlp _ hB0).mono ?_; rintro e5 W1 ⟨rfl, hb1⟩; have hK1 := HK.out W1 hb1; obtain ⟨q0, q1, q2, q3, q4, q5, q6⟩ := hK1.1.cs; have ce : W1.cell? ⟨w.heap.size, 0, none⟩ = some (.int .i64 e.k) := hK1.2.cell 0; have hB1 := hK1.1.bel; have HB : Hid (Below w.heap.size w W1 ∧ BoxN W1 w.heap.size 57 e.cells) := ⟨hB1, hK1.2⟩; clear hK1 hb1)
            | (go_at_call 53; refine (hmb _ hB1).mono ?_; rintro e5 W2 ⟨rfl, hb2⟩; have HB2 : Hid (Below w.heap.size w W2 ∧ BoxN W2 w.heap.size 57 e.cells) := ⟨HB.out.1.trans (hb2.mono HB.out.1.size), HB.out.2.below hb2 HB.out.2.lt⟩; clear hb2))
          first
            | (have hR : true = R := HD.out
               subst hR
               first
                 | (go_ret
                    first
                      | exact ⟨rfl, HB2.out.1⟩
                      | exact ⟨rfl, HB.out.1⟩)
                 | exact ⟨rfl, HB2.out.1⟩
                 | exact ⟨rfl, HB.out.1⟩)
            | (have hR : false = R := HD.out
               subst hR
               first
                 | (go_ret
                    first
                      | exact ⟨rfl, HB2.out.1⟩
                      | exact ⟨rfl, HB.out.1⟩)
                 | exact ⟨rfl, HB2.out.1⟩
                 | exact ⟨rfl, HB.out.1⟩)
            | (have hR : Hid (iwL mb Rb false (e.kids.drop (i + 1)) = R) := HD.out
               first
                 | exact ⟨⟨i + 1, by go_num, by omega, hR, HB2⟩, by simp [intOf]; omega⟩
                 | exact ⟨⟨i + 1, by go_num, by omega, hR, HB⟩, by simp [intOf]; omega⟩)
  · go_enter Try.func57, Try.ntmps57
    go_wp2_with fail
    go_loopw [19] (fun p wr => ∃ i : Nat, p = .int .i64 i ∧ i ≤ e.kids.length ∧ Hid (iwL mb Rb true (e.kids.drop i) = R) ∧ Hid (Below w.heap.size w wr ∧ BoxN wr w.heap.size 57 e.cells)) (fun p _ => e.kids.length - (intOf p).toNat)
    case atStart => exact ⟨0, rfl, Nat.zero_le _, HR0, H0⟩
    case round =>
      clear HR0 H0
      obtain ⟨i, rfl, hi, HR, HQ0⟩ := hrel
      have HQ : Hid (Below w.heap.size w wr) := HQ0.out.1
      by_cases hend : i = e.kids.length
      · have g1 : decide (i < e.kids.length) = false := by simp; omega
        have hR : true = R := by have := HR.out; rw [hend, List.drop_length, iwL] at this; exact this
        subst hR
        clear hend
        go_wp2_with fail
        first
          | (go_ret
             exact ⟨rfl, HQ.out⟩)
          | exact ⟨rfl, HQ.out⟩
      · have hlt : i < e.kids.length := by omega
        obtain ⟨x, hx⟩ : ∃ x, e.kids[i]? = some x := ⟨_, List.getElem?_eq_getElem hlt⟩
        obtain ⟨b, o, ha, hb, hc⟩ := HC.out i x hx wr HQ.out
        have c0 := hc 0 (by omega)
        have c1 := hc 1 (by omega)
        have c2 := hc 2 (by omega)
        have c3 := hc 3 (by omega)
        have c4 := hc 4 (by omega)
        have c5 := hc 5 (by omega)
        have c6 := hc 6 (by omega)
        rw [cells_eq] at c0 c1 c2 c3 c4 c5 c6
        simp only [List.getElem?_toArray, List.getElem?_cons_zero, List.getElem?_cons_succ, Nat.add_zero] at c0 c1 c2 c3 c4 c5 c6
        rw [ha]
        have hK0 : Kc w wr.heap.size x (wr.alloc (.cells x.cells 57)) := ⟨HQ.out.alloc HQ.out.size _, BoxN.new wr 57 _⟩
        rw [cells_eq] at hK0
        have hmb := HM.out x (List.mem_of_getElem? hx)
        have hlp := HI.out x (List.mem_of_getElem? hx)
        rw [val_eq] at hmb hlp
        have HD : Hid ((if x.iw mb Rb = false then false else if true && !mb x then true else iwL mb Rb true (e.kids.drop (i + 1))) = R) := by rw [← iwL_drop _ _ _ _ _ _ hx]; exact HR.out
        have HK : Hid (∀ W', Below (wr.alloc (.cells #[.int .i64 x.k, .int .u64 (wd x.S 0), .int .u64 (wd x.S 1), .int .u64 (wd x.S 2), .int .u64 (wd x.S 3), .string x.t, .slice x.a x.kids.length x.c] 57)).heap.size (wr.alloc (.cells #[.int .i64 x.k, .int .u64 (wd x.S 0), .int .u64 (wd x.S 1), .int .u64 (wd x.S 2), .int .u64 (wd x.S 3), .string x.t, .slice x.a x.kids.length x.c] 57)) W' → Kc w wr.heap.size x W' ∧ BoxN W' w.heap.size 57 e.cells) := fun W' hb => ⟨hK0.step hb, (HQ0.out.2.alloc _).below hb (by have := HQ0.out.2.lt; simp; omega)⟩
        have hB0 := hK0.bel
        generalize hv1 : mb x = v1 at *
        generalize hv2 : x.iw mb Rb = v2 at *
        clear hc hend HR HM HI HC hv1 hv2 hx hb hK0 HQ HQ0 ha
        cases v1 <;> cases v2
        all_goals
          go_wp2_with (first
            | (go_at_call 57; refine (hlp _ hB0).mono ?_; rintro e5 W1 ⟨rfl, hb1⟩; have hK1 := HK.out W1 hb1; obtain ⟨q0, q1, q2, q3, q4, q5, q6⟩ := hK1.1.cs; have ce : W1.cell? ⟨w.heap.size, 0, none⟩ = some (.int .i64 e.k) := hK1.2.cell 0; have hB1 := hK1.1.bel; have HB : Hid (Below w.heap.size w W1 ∧ BoxN W1 w.heap.size 57 e.cells) := ⟨hB1, hK1.2⟩; clear hK1 hb1)
            | (go_at_call 53; refine (hmb _ hB1).mono ?_; rintro e5 W2 ⟨rfl, hb2⟩; have HB2 : Hid (Below w.heap.size w W2 ∧ BoxN W2 w.heap.size 57 e.cells) := ⟨HB.out.1.trans (hb2.mono HB.out.1.size), HB.out.2.below hb2 HB.out.2.lt⟩; clear hb2))
          first
            | (have hR : true = R := HD.out
               subst hR
               first
                 | (go_ret
                    first
                      | exact ⟨rfl, HB2.out.1⟩
                      | exact ⟨rfl, HB.out.1⟩)
                 | exact ⟨rfl, HB2.out.1⟩
                 | exact ⟨rfl, HB.out.1⟩)
            | (have hR : false = R := HD.out
               subst hR
               first
                 | (go_ret
                    first
                      | exact ⟨rfl, HB2.out.1⟩
                      | exact ⟨rfl, HB.out.1⟩)
                 | exact ⟨rfl, HB2.out.1⟩
                 | exact ⟨rfl, HB.out.1⟩)
            | (have hR : Hid (iwL mb Rb true (e.kids.drop (i + 1)) = R) := HD.out
               first
                 | exact ⟨⟨i + 1, by go_num, by omega, hR, HB2⟩, by simp [intOf]; omega⟩
                 | exact ⟨⟨i + 1, by go_num, by omega, hR, HB⟩, by simp [intOf]; omega⟩)
theorem loops_does (g : Gr) (l : List Fa) (kb gb K m ob : Nat) (hl : g.rules.length ≤ 10) : ∀ (N : Nat) (e : Ex), e.size ≤ N → e.Ok (IsRule g) → LpC g l kb gb K m ob e
  | 0, e, hN, _ => by have := size_eq e; omega
  | N + 1, e, hN, ho => loops_kids g l kb gb K m ob hl e ho fun x hx => loops_does g l kb gb K m ob hl N x (by have := size_kid hx; omega) (ho.kid hx)
theorem loops_any (g : Gr) (l : List Fa) (kb gb K m ob : Nat) (hl : g.rules.length ≤ 10) (e : Ex) (ho : e.Ok (IsRule g)) : LpC g l kb gb K m ob e := loops_does g l kb gb K m ob hl e.size e (Nat.le_refl _) ho
theorem isWell_does (g : Gr) (l : List Fa) (lb : List Bool) (kb gb K m ob kb2 gb2 K2 m2 : Nat) (hl : g.rules.length ≤ 10) : ∀ (N : Nat) (e : Ex), e.size ≤ N → e.Ok (IsRule g) → IwC g l lb kb gb K m ob kb2 gb2 K2 m2 e
  | 0, e, hN, _ => by have := size_eq e; omega
  | N + 1, e, hN, ho => by
    by_cases hk : e.k = 4
    · exact isWell_ref g l lb kb gb K m ob kb2 gb2 K2 m2 hl e ho hk
    · exact isWell_kids g l lb kb gb K m ob kb2 gb2 K2 m2 hl e ho hk fun x hx => isWell_does g l lb kb gb K m ob kb2 gb2 K2 m2 hl N x (by have := size_kid hx; omega) (ho.kid hx)
theorem isWell_any (g : Gr) (l : List Fa) (lb : List Bool) (kb gb K m ob kb2 gb2 K2 m2 : Nat) (hl : g.rules.length ≤ 10) (e : Ex) (ho : e.Ok (IsRule g)) : IwC g l lb kb gb K m ob kb2 gb2 K2 m2 e := isWell_does g l lb kb gb K m ob kb2 gb2 K2 m2 hl e.size e (Nat.le_refl _) ho
set_option maxRecDepth 20000 in
set_option maxHeartbeats 4000000 in
theorem follows_any (g : Gr) (l : List Fa) (lb : List Bool) (kb gb K m ob kb2 gb2 K2 m2 mo : Nat) (hl : g.rules.length ≤ 10) (e : Ex) (ho : e.Ok (IsRule g)) (w : World) (hin : e.In w.heap.size w) (hE : Em m w g l kb gb K ob) (hW : Kw2 m2 w g lb kb2 gb2 K2) (hM : BoxN w mo 108 #[mbv ob]) :
    Calls Try.prog 56 #[e.val, ofb kb2 gb2, .pointer (some ⟨mo, 0, none⟩)] w fun r W' => r = .returned (.bool (e.iw (mbF g l) (ofL false g.rules lb))) ∧ Below w.heap.size w W' := by
  have hA := (Below.refl w.heap.size w).alloc (Nat.le_refl _) (.cells e.cells 57)
  have hM2 := hM.below hA hM.lt
  have c0 := hM2.cell 0
  simp only [List.getElem?_toArray, List.getElem?_cons_zero] at c0
  have hm := isWell_any g l lb kb gb K m ob kb2 gb2 K2 m2 hl e ho _ (hin.grow hA) (hE.grow hA) (hW.grow hA)
  generalize e.iw (mbF g l) (ofL false g.rules lb) = F at *
  have HB : Hid (∀ W', Below (w.alloc (.cells e.cells 57)).heap.size (w.alloc (.cells e.cells 57)) W' → Below w.heap.size w W') := fun W' hb => hA.trans (hb.mono hA.size)
  rw [val_eq] at hm ⊢
  unfold mbv ofb at *
  rw [cells_eq] at c0 hm HB
  clear hA hM2 hE hin ho hW hM
  go_enter Try.func56, Try.ntmps56
  go_wp2_with (go_at_call 57; refine hm.mono ?_; rintro r W1 ⟨rfl, hb⟩; have h5 := HB.out W1 hb)
  first
    | (go_ret
       exact ⟨rfl, h5⟩)
    | exact ⟨rfl, h5⟩
end Go.Proofs.Ytokdaapmejccbaa
