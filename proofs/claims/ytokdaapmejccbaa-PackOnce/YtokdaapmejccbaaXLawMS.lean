import Derived.Test.YtokdaapmejccbaaXPkF
import Derived.Test.YtokdaapmejccbaaXLwA
import Derived.Test.YtokdaapmejccbaaXLawMM
namespace Go.Proofs.Ytokdaapmejccbaa
open Go.RowKit
set_option linter.unusedVariables false
set_option linter.unusedSimpArgs false
section
variable {g : Gr} {s : List UInt8}
theorem app_inj {L N M : List St} {o o' : Ot} (h : some (o, L ++ N) = some (o', L ++ M)) : N = M := by
  simp only [Option.some.injEq, Prod.mk.injEq] at h
  exact List.append_cancel_left h.2
/-- Fewer are remembered than steps were taken. -/
theorem evM_few (hB : BOk g) {lf : List Fa} (hL : Pre fLe g.rules.length (mst g.rules) lf) : ∀ (f : Nat) (e : Ex) (p : Nat) (o : Ot) (n : Nat) (L N : List St), e.Ok (IsRule g) → p ≤ s.length → ev g s f e p = some (o, n) → SoL g s L → evM g s f e p L = some (o, L ++ N) → N.length + 1 ≤ n
  | 0, e, p, o, n, L, N, _, _, h, _, _ => by cases h
  | f + 1, e, p, o, n, L, N, ho, hp, h, hSo, hM => by
    have ho' := (ok_eq _ e).1 ho
    have ih := evM_of hB (s := s) hL f
    rw [ev] at h
    rw [evM] at hM
    by_cases h1 : e.k = 1 ∨ e.k = 2 ∨ e.k = 3
    · rw [if_pos h1] at h hM
      have e1 : N = [] := app_inj (M := []) (by rw [List.append_nil]; exact hM.symm)
      simp only [Option.some.injEq, Prod.mk.injEq] at h
      rw [e1, ← h.2]
      exact Nat.le_refl _
    rw [if_neg h1] at h hM
    by_cases h4 : e.k = 4
    · rw [if_pos h4] at h hM
      obtain ⟨i, r, hi, hr, hb⟩ := body_of (ho'.2.1 h4)
      rw [hb] at h hM
      simp only [Option.map_eq_some_iff, Prod.mk.injEq] at h
      obtain ⟨⟨o1, m⟩, hx, rfl, rfl⟩ := h
      simp only at hM
      have hbo := hB r (List.mem_of_getElem? hr)
      cases hm : memo L (fnd g.rules e.t).toNat p with
      | some o2 =>
        rw [hm] at hM
        simp only [Option.some.injEq, Prod.mk.injEq] at hM
        have e1 : N = [] := by
          have := hM.2
          have h9 := congrArg List.length this
          rw [List.length_append] at h9
          exact List.eq_nil_of_length_eq_zero (by omega)
        rw [e1]
        show 0 + 1 ≤ m + 1
        omega
      | none =>
        rw [hm] at hM
        obtain ⟨N2, h2, h3, -⟩ := ih r.2 hbo p o1 m L hp hx hSo
        have h5 := evM_few hB hL f r.2 p o1 m L N2 hbo hp hx hSo h2
        simp only [h2, Option.some.injEq, Prod.mk.injEq, true_and] at hM
        rw [List.append_assoc] at hM
        rw [← List.append_cancel_left hM]
        simp
        omega
    rw [if_neg h4] at h hM
    have hih : ∀ x ∈ e.kids, MemoF g s (ev g s f) (evM g s f) x := fun x hx => ih x (ho.kid hx)
    by_cases h5 : e.k = 5
    · rw [if_pos h5] at h hM
      obtain ⟨N', a1, a2, a3, a4⟩ := seqM_of e.kids p 1 o n L hih hp h hSo
      rw [app_inj (hM.symm.trans a1)]
      have := a3.few
      omega
    rw [if_neg h5] at h hM
    by_cases h6 : e.k = 6
    · rw [if_pos h6] at h hM
      obtain ⟨N', a1, a2, a3, a4⟩ := altM_of e.kids p 1 o n L hih hp h hSo
      rw [app_inj (hM.symm.trans a1)]
      have := a3.few
      omega
    rw [if_neg h6] at h hM
    cases hk : e.kids with
    | nil => rw [hk] at h; cases h
    | cons x l =>
      rw [hk] at h hM
      have hix := hih x (by rw [hk]; simp)
      simp only at h hM
      by_cases h7 : e.k = 7
      · rw [if_pos h7] at h hM
        obtain ⟨N', a1, a2, a3, a4⟩ := starM_of hix f p 1 o n L hp h hSo
        rw [app_inj (hM.symm.trans a1)]
        have := a3.few
        omega
      rw [if_neg h7] at h hM
      cases hF : ev g s f x p with
      | none => rw [hF] at h; cases h
      | some y =>
        obtain ⟨o1, k⟩ := y
        rw [hF] at h
        obtain ⟨N1, b1, b2, b3⟩ := hix p o1 k L hp hF hSo
        rw [b1] at hM
        simp only at h hM
        have hf1 := b2.few
        by_cases h8 : e.k = 8
        · rw [if_pos h8] at h hM
          cases o1 with
          | none =>
            simp only [Option.some.injEq, Prod.mk.injEq] at h
            rw [← app_inj hM]
            omega
          | some q =>
            obtain ⟨N2, a1, a2, a3, a4⟩ := starM_of hix f q (1 + k) o n (L ++ N1) (b3 q rfl).2 h (hSo.app b2)
            simp only at hM
            rw [List.append_assoc] at a1
            rw [app_inj (hM.symm.trans a1), List.length_append]
            have := a3.few
            omega
        · rw [if_neg h8] at h hM
          simp only [Option.some.injEq, Prod.mk.injEq] at h
          rw [← app_inj hM]
          omega
end
/-- No more are remembered than steps were taken. -/
theorem pk_few {g : Gr} {n9 : Int} (h : W9 g n9 0) {T : ByteArray} (hT : T.size ≤ 60) {i p : Nat} {o : Ot} {L : List St} (hp : p ≤ T.size) (hP : PkS g T i p o L) : ∃ r f n, g.rules[i]? = some r ∧ ev g T.data.toList f r.2 p = some (o, n) ∧ L.length ≤ n := by
  obtain ⟨-, -, hok, hB, lf, hW⟩ := h.ok
  obtain ⟨r, f, n, N, hr, hf, hA, hL, hk⟩ := hP.ex
  refine ⟨r, f, n, hr, hf, ?_⟩
  have hbo := hB r (List.mem_of_getElem? hr)
  obtain ⟨N2, hN, hA2, -⟩ := evM_of hB (s := T.data.toList) hW.may.1 f r.2 hbo p o n [] hp hf (fun x hx => by cases hx)
  have h1 := evM_few hB (s := T.data.toList) hW.may.1 f r.2 p o n [] N2 hbo hp hf (fun x hx => by cases hx) hN
  rw [List.nil_append] at hN
  have h2 := tryG_k g T.data.toList f r.2 p [] o N2 hN ((Rm_iff _).2 ⟨?_, hA2.once⟩)
  · unfold ruleK at hk
    rw [show memo [] i p = none from rfl, h2] at hk
    simp only at hk
    split at hk
    · simp only [Option.some.injEq, Prod.mk.injEq, true_and] at hk
      rw [← hk, List.length_append]
      simp
      omega
    · cases hk
  · have h3 := once_few g.rules.length T.size N2 hA2.once fun x hx => by
      obtain ⟨⟨r1, m, k1, k2, k3⟩, k4⟩ := hA2.ok x hx
      exact ⟨(List.getElem?_eq_some_iff.1 k1).1, k4⟩
    have h4 : g.rules.length * (T.size + 1) ≤ 10 * 61 := Nat.mul_le_mul hok.most (by omega)
    omega
theorem chk_le : ∀ (l : List (Int × Ex)) (n : Nat), chk n l ≤ 9
  | [], n => by rw [chk]; decide
  | (d, x) :: r, n => by
    rw [chk]
    split
    · decide
    · split
      · decide
      · split
        · exact chk_le r (n + 1)
        · decide
theorem rulesChk_le (all : List (ByteArray × Ex)) : ∀ (l : List (ByteArray × Ex)) (i : Nat), rulesChk all i l ≤ 9
  | [], i => by rw [rulesChk]; decide
  | r :: l, i => by
    rw [rulesChk]
    split
    · unfold ruleChk
      split
      · decide
      · split
        · decide
        · exact chk_le _ _
    · exact rulesChk_le all l (i + 1)
theorem gcheck_le (l : List (ByteArray × Ex)) : gcheck l ≤ 9 := by
  unfold gcheck
  split
  · decide
  · split
    · decide
    · split
      · exact rulesChk_le _ _ _
      · split
        · decide
        · split <;> decide
theorem W9.le {g : Gr} {n e : Int} (h : W9 g n e) : e ≤ 9 := by
  rcases h with ⟨-, -, rfl⟩ | ⟨-, lf, -, hN⟩
  · exact gcheck_le _
  · unfold WellN at hN
    split at hN
    · omega
    · obtain ⟨lb, -, hN⟩ := hN
      split at hN <;> omega
theorem lkE_le {g : Gr} {n e : Int} (T : ByteArray) (h : W9 g n e) : lkE T e ≤ 9 := by
  have := h.le
  unfold lkE
  split
  · exact this
  · split <;> decide
/-- Of x again and again on xxy. -/
theorem star_ev (g : Gr) (a : Option Addr) (c : Nat) : ∃ f n, ev g [120, 120, 121] f (estar a c (elit nx)) 0 = some (some 2, n) := ⟨5, _, rfl⟩
end Go.Proofs.Ytokdaapmejccbaa
namespace Go.Proofs.Ytokdaapmejccbaa
open Go.RowKit
set_option linter.unusedVariables false
set_option linter.unusedSimpArgs false
def lit7 : Array Value := #[.int .i64 3, .int .u64 0, .int .u64 0, .int .u64 0, .int .u64 0, .string nx, .slice none 0 0]
theorem star_in (W : World) : Below W.heap.size W (W.alloc (.cells lit7 57)) ∧ (estar (some ⟨W.heap.size, 0, none⟩) 1 (elit nx)).In (W.alloc (.cells lit7 57)).heap.size (W.alloc (.cells lit7 57)) := by
  refine ⟨(Below.refl _ _).alloc (Nat.le_refl _) _, ?_⟩
  unfold estar exo
  rw [Ex.In, Ex.In.InL, Ex.In.InL]
  refine ⟨⟨by simp, by decide⟩, ⟨W.heap.size, 0, rfl, by simp, fun j hj => ?_⟩, ?_, trivial⟩
  · simp only [Nat.zero_mul, Nat.zero_add]; rw [(BoxN.new W 57 lit7).cell j]
    match j, hj with
    | 0, _ => rfl
    | 1, _ => rfl
    | 2, _ => rfl
    | 3, _ => rfl
    | 4, _ => rfl
    | 5, _ => rfl
    | 6, _ => rfl
  · unfold elit exo
    rw [Ex.In]
    exact ⟨⟨by simp, by decide⟩, by rw [Ex.In.InL]; trivial⟩
theorem star_run (g : Gr) (a : Option Addr) (c : Nat) (hg : g.rules = [(na, estar a c (elit nx))]) (W : World) (hin : g.In W.heap.size W) :
    Calls Try.prog 20 #[g.val, .string ⟨#[120, 120, 121]⟩] W fun r W' => ∃ sv, r = .returned (.tuple #[.agg #[.bool true, .int .i64 2], sv, .int .i64 0]) ∧ Below W.heap.size W W' := by
  have hW := star_w9 g a c hg
  have hr : g.rules[0]? = some (na, estar a c (elit nx)) := by rw [hg]; rfl
  obtain ⟨o, L, hP⟩ := pk_ex hW ⟨#[120, 120, 121]⟩ (by decide) hr (p := 0) (Nat.zero_le _)
  obtain ⟨r, f, n, N, hr', hf, -⟩ := hP.ex
  rw [hr] at hr'
  cases hr'
  obtain ⟨f2, n2, h2⟩ := star_ev g a c
  obtain ⟨rfl, -⟩ := Evs.same (s := [120, 120, 121]) ⟨f, hf⟩ ⟨f2, h2⟩
  refine (packRun_ok g ⟨#[120, 120, 121]⟩ hW rfl hP W hin).mono ?_
  rintro e W' ⟨sv, rfl, hb, -⟩
  exact ⟨sv, rfl, hb⟩
theorem row_form {w : World} {base : Nat} {sv : Value} {L : List St} (h : w.ownsRow base 43 4 sv L.length (stL L)) : ∃ a c, sv = .slice a L.length c := by
  rcases h.2 with ⟨rfl, h0⟩ | ⟨g, cap, cur, rfl, _⟩
  · rw [h0]; exact ⟨_, _, rfl⟩
  · exact ⟨_, _, rfl⟩
set_option maxRecDepth 20000 in
set_option maxHeartbeats 8000000 in
theorem meanSame_any (g : Gr) (T : ByteArray) (w : World) (hin : g.In w.heap.size w) :
    Calls Try.prog 11 #[g.val, .string T] w fun r W' => r = .returned (.bool true) ∧ Below w.heap.size w W' := by
  obtain ⟨n9, e9, h9⟩ := w9_ex g
  obtain ⟨o, n, hS⟩ := sem_ex g T h9
  have HB : Hid (Gbx g w _) := Gbx.new g w
  have hl := lit_any nx
  have ho : ∀ (a : Option Addr) (W : World), _ := fun a W => of_any 7 a [exo 3 nx none 0 []] 1 W
  have h1 : ∀ (a : Option Addr) (W : World) (hin : (estar a 1 (elit nx)).In W.heap.size W), _ := fun a W hin => one_any (estar a 1 (elit nx)) W hin
  have hv : ∀ a, (estar a 1 (elit nx)).val = _ := fun a => exo_val 7 ByteArray.empty a 1 [exo 3 nx none 0 []]
  simp only [List.length_cons, List.length_nil, Nat.zero_add] at hv ho
  have HR : Hid (∀ W, Below w.heap.size w W → Calls Try.prog 16 #[g.val, .string T, .int .i64 1048576] W fun r W' => r = .returned (mrun T e9 o n 1048576) ∧ Below W.heap.size W W') := fun W hb => mrun_any g T 1048576 h9 hS (by omega) W (hin.grow hb)
  have hq := fun a b x y W => eq_oc a b x y W
  have hG : ∀ W, Below w.heap.size w W → g.In W.heap.size W := fun W hb => hin.grow hb
  rw [exo_val] at hl
  unfold nx at hl
  have hle := lkE_le T h9
  by_cases h0 : lkE T e9 = 0
  · obtain ⟨rfl, hT⟩ := lkE_zero h0
    obtain ⟨r0, f0, hr0, hf0⟩ := hS h0
    obtain ⟨o', L, hP⟩ := pk_ex h9 T hT hr0 (p := 0) (Nat.zero_le _)
    obtain ⟨r1, f1, n1, hr1, hf1, hfew⟩ := pk_few h9 hT (Nat.zero_le _) hP
    rw [hr0] at hr1
    cases hr1
    obtain ⟨rfl, rfl⟩ := Evs.same ⟨f0, hf0⟩ ⟨f1, hf1⟩
    have hp := fun W hb => packRun_ok g T h9 h0 hP W (hG W hb)
    have hr := HR.out
    unfold mrun at hr
    rw [if_neg (by simpa using h0), if_neg (by omega)] at hr
    unfold anR at hr
    rw [show (1048576 : Int).toNat = 1048576 from rfl] at hr
    rw [gval_eq] at hp hr ⊢
    unfold oval at hp
    obtain ⟨z, k, hzk⟩ := oc_form 0 o
    rw [hzk] at hp
    by_cases hn : n ≤ 1048576
    · rw [if_pos hn] at hr
      unfold oval at hr
      rw [hzk] at hr
      have q1 : ¬ (n : Int) < (L.length : Int) := by omega
      clear hin h9 hS hG HR hP hf0 hf1 hr0 hle h0 hzk
      go_enter Try.func11, Try.ntmps11
      go_wp2_with (first
      | (go_at_call 26; refine (hl _).mono ?_; rintro e1 W1 ⟨rfl, hb1⟩; have HB1 : Hid _ := HB.out.step hb1; clear hb1)
      | (go_at_call 29; refine (ho (some ⟨W1.heap.size, 0, none⟩) _).mono ?_; rintro e2 W2 ⟨rfl, hb2⟩; rw [exo_val]; have hI := star_in W1; have hI2 := hI.2.grow hb2; have HB2 : Hid _ := (HB1.out.step hI.1).step hb2; have h11 := h1 _ _ hI2; rw [hv] at h11; clear hb2 hI hI2)
      | (go_at_call 25; refine h11.mono ?_; rintro e3 W3 ⟨g1, rfl, hg1, hin1, hb3⟩; have HB3 : Hid _ := HB2.out.step hb3; have h20 := star_run g1 _ _ hg1 W3 hin1; rw [gval_eq] at h20; clear hb3 h11)
      | (go_at_call 20; refine h20.mono ?_; rintro e4 W4 ⟨sv1, rfl, hb4⟩; have HB4 : Hid (Gbx g w (W4.alloc (.cells #[.bool true, .int .i64 2] 29))) := (HB3.out.step hb4).alloc _; have c4 := HB4.out.cell; have h16 := hr _ HB4.out.bel; clear hb4 h20)
      | (go_at_call 16; refine h16.mono ?_; rintro e5 W5 ⟨rfl, hb5⟩; have HB5 : Hid (Gbx g w (W5.alloc (.cells #[.bool z, .int .i64 k] 29))) := (HB4.out.step hb5).alloc _; have HO5 : Hid (BoxN (W5.alloc (.cells #[.bool z, .int .i64 k] 29)) W5.heap.size 29 #[.bool z, .int .i64 k]) := BoxN.new W5 29 _; have c5 := HB5.out.cell; have hp5 := hp _ HB5.out.bel; clear hb5 h16)
      | (go_at_call 20; refine hp5.mono ?_; rintro e6 W6 ⟨sv, rfl, hb6, hrow⟩; obtain ⟨sa, sc, rfl⟩ := row_form hrow; have HB6 : Hid (Gbx g w (W6.alloc (.cells #[.bool z, .int .i64 k] 29))) := (HB5.out.step hb6).alloc _; have HO6 : Hid (BoxN (W6.alloc (.cells #[.bool z, .int .i64 k] 29)) W5.heap.size 29 #[.bool z, .int .i64 k]) := (HO5.out.below hb6 HO5.out.lt).alloc _; have d0 := HO6.out.cell 0; have d1 := HO6.out.cell 1; simp only [List.getElem?_toArray, List.getElem?_cons_zero, List.getElem?_cons_succ] at d0 d1; clear hb6 hrow))
      exact bodyPost_ret (by simp [results, Try.results11, go_sem]) rfl ⟨rfl, HB6.out.bel⟩
    · rw [if_neg hn] at hr
      unfold oval ocells at hr
      clear hin h9 hS hG HR hP hf0 hf1 hr0 hle h0 hzk
      go_enter Try.func11, Try.ntmps11
      go_wp2_with (first
      | (go_at_call 26; refine (hl _).mono ?_; rintro e1 W1 ⟨rfl, hb1⟩; have HB1 : Hid _ := HB.out.step hb1; clear hb1)
      | (go_at_call 29; refine (ho (some ⟨W1.heap.size, 0, none⟩) _).mono ?_; rintro e2 W2 ⟨rfl, hb2⟩; rw [exo_val]; have hI := star_in W1; have hI2 := hI.2.grow hb2; have HB2 : Hid _ := (HB1.out.step hI.1).step hb2; have h11 := h1 _ _ hI2; rw [hv] at h11; clear hb2 hI hI2)
      | (go_at_call 25; refine h11.mono ?_; rintro e3 W3 ⟨g1, rfl, hg1, hin1, hb3⟩; have HB3 : Hid _ := HB2.out.step hb3; have h20 := star_run g1 _ _ hg1 W3 hin1; rw [gval_eq] at h20; clear hb3 h11)
      | (go_at_call 20; refine h20.mono ?_; rintro e4 W4 ⟨sv1, rfl, hb4⟩; have HB4 : Hid (Gbx g w (W4.alloc (.cells #[.bool true, .int .i64 2] 29))) := (HB3.out.step hb4).alloc _; have c4 := HB4.out.cell; have h16 := hr _ HB4.out.bel; clear hb4 h20)
      | (go_at_call 16; refine h16.mono ?_; rintro e5 W5 ⟨rfl, hb5⟩; have HB5 : Hid (Gbx g w (W5.alloc (.cells #[.bool false, .int .i64 0] 29))) := (HB4.out.step hb5).alloc _; have HO5 : Hid (BoxN (W5.alloc (.cells #[.bool false, .int .i64 0] 29)) W5.heap.size 29 #[.bool false, .int .i64 0]) := BoxN.new W5 29 _; have c5 := HB5.out.cell; have hp5 := hp _ HB5.out.bel; clear hb5 h16)
      | (go_at_call 20; refine hp5.mono ?_; rintro e6 W6 ⟨sv, rfl, hb6, hrow⟩; obtain ⟨sa, sc, rfl⟩ := row_form hrow; have HB6 : Hid (Gbx g w (W6.alloc (.cells #[.bool z, .int .i64 k] 29))) := (HB5.out.step hb6).alloc _; have HO6 : Hid (BoxN (W6.alloc (.cells #[.bool z, .int .i64 k] 29)) W5.heap.size 29 #[.bool false, .int .i64 0]) := (HO5.out.below hb6 HO5.out.lt).alloc _; have d0 := HO6.out.cell 0; have d1 := HO6.out.cell 1; simp only [List.getElem?_toArray, List.getElem?_cons_zero, List.getElem?_cons_succ] at d0 d1; clear hb6 hrow))
      exact bodyPost_ret (by simp [results, Try.results11, go_sem]) rfl ⟨rfl, HB6.out.bel⟩
  · have hp := fun W hb => packRun_bad g T h9 h0 W (hG W hb)
    have hr := HR.out
    unfold mrun at hr
    rw [if_pos h0] at hr
    rw [gval_eq] at hp hr ⊢
    unfold oval ocells at hp hr
    generalize lkE T e9 = kk at *
    have q1 : (kk != 0) = true := by simpa using h0
    have q2 : (kk == 10) = false := by simp; omega
    clear hin h9 hS hG HR hle
    go_enter Try.func11, Try.ntmps11
    go_wp2_with (first
      | (go_at_call 26; refine (hl _).mono ?_; rintro e1 W1 ⟨rfl, hb1⟩; have HB1 : Hid _ := HB.out.step hb1; clear hb1)
      | (go_at_call 29; refine (ho (some ⟨W1.heap.size, 0, none⟩) _).mono ?_; rintro e2 W2 ⟨rfl, hb2⟩; rw [exo_val]; have hI := star_in W1; have hI2 := hI.2.grow hb2; have HB2 : Hid _ := (HB1.out.step hI.1).step hb2; have h11 := h1 _ _ hI2; rw [hv] at h11; clear hb2 hI hI2)
      | (go_at_call 25; refine h11.mono ?_; rintro e3 W3 ⟨g1, rfl, hg1, hin1, hb3⟩; have HB3 : Hid _ := HB2.out.step hb3; have h20 := star_run g1 _ _ hg1 W3 hin1; rw [gval_eq] at h20; clear hb3 h11)
      | (go_at_call 20; refine h20.mono ?_; rintro e4 W4 ⟨sv1, rfl, hb4⟩; have HB4 : Hid (Gbx g w (W4.alloc (.cells #[.bool true, .int .i64 2] 29))) := (HB3.out.step hb4).alloc _; have c4 := HB4.out.cell; have h16 := hr _ HB4.out.bel; clear hb4 h20)
      | (go_at_call 16; refine h16.mono ?_; rintro e5 W5 ⟨rfl, hb5⟩; have HB5 : Hid (Gbx g w (W5.alloc (.cells #[.bool false, .int .i64 0] 29))) := (HB4.out.step hb5).alloc _; have HO5 : Hid (BoxN (W5.alloc (.cells #[.bool false, .int .i64 0] 29)) W5.heap.size 29 #[.bool false, .int .i64 0]) := BoxN.new W5 29 _; have c5 := HB5.out.cell; have hp5 := hp _ HB5.out.bel; clear hb5 h16)
      | (go_at_call 20; refine hp5.mono ?_; rintro e6 W6 ⟨rfl, hb6⟩; have HB6 : Hid (Gbx g w (W6.alloc (.cells #[.bool false, .int .i64 0] 29))) := (HB5.out.step hb6).alloc _; have HO6 : Hid (BoxN (W6.alloc (.cells #[.bool false, .int .i64 0] 29)) W5.heap.size 29 #[.bool false, .int .i64 0]) := (HO5.out.below hb6 HO5.out.lt).alloc _; have d0 := HO6.out.cell 0; have d1 := HO6.out.cell 1; simp only [List.getElem?_toArray, List.getElem?_cons_zero, List.getElem?_cons_succ] at d0 d1; clear hb6))
    exact bodyPost_ret (by simp [results, Try.results11, go_sem]) rfl ⟨rfl, HB6.out.bel⟩
end Go.Proofs.Ytokdaapmejccbaa
