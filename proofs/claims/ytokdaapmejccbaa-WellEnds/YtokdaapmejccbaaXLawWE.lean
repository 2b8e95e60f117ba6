import Derived.Test.YtokdaapmejccbaaXLawMS
namespace Go.Proofs.Ytokdaapmejccbaa
open Go.RowKit
open Ex.iw (iwL)
open Ex.lp (lpL)
open Ex.nodes (nodesL)
set_option linter.unusedVariables false
set_option linter.unusedSimpArgs false
/-- A rule that comes to itself first. -/
def eA (a : Option Addr) (c : Nat) : Ex := exo 5 ByteArray.empty a c [exo 4 na none 0 [], exo 3 nx none 0 []]
/-- Again and again what may be nothing. -/
def eO (a : Option Addr) (c : Nat) : Ex := exo 9 ByteArray.empty a c [elit nx]
theorem eA_nodes (a : Option Addr) (c : Nat) : (eA a c).nodes 1 = [(1, eA a c), (2, exo 4 na none 0 []), (2, exo 3 nx none 0 [])] := by
  unfold eA exo
  rw [Ex.nodes, nodesL, nodesL, nodesL, Ex.nodes, Ex.nodes, nodesL, w2]
  rfl
theorem eA_check (a : Option Addr) (c : Nat) : check (eA a c) = 0 := by
  unfold check
  rw [eA_nodes]
  rw [chk, if_neg (by decide), if_neg (by decide), if_pos (show formOk (eA a c) = true from f5 _ _ _ _), chk, if_neg (by decide), if_neg (by decide), if_pos f4, chk, if_neg (by decide), if_neg (by decide), if_pos f3, chk]
theorem eA_refs (a : Option Addr) (c : Nat) : refsR (eA a c) = [na] := by
  unfold refsR
  rw [if_pos (eA_check a c), eA_nodes]
  rfl
theorem eA_lp (mb : Ex → Bool) (a : Option Addr) (c : Nat) : (eA a c).lp mb = false := by
  unfold eA exo
  rw [Ex.lp, lpL, lpL, lpL, Ex.lp, Ex.lp, lpL]
  rfl
theorem eA_w9 (g : Gr) (n e : Int) (a : Option Addr) (c : Nat) (hg : g.rules = [(na, eA a c)]) (h : W9 g n e) : n = 0 ∧ e = 8 := by
  rcases h with ⟨h0, -⟩ | ⟨-, lf, -, h⟩
  · exact absurd (by rw [hg]; exact one_check (eA a c) (eA_check a c) (eA_refs a c)) h0
  unfold WellN at h
  rw [hg, fiF, if_neg (by rw [eA_lp]; decide), fiF] at h
  obtain ⟨lb, hL, h1⟩ := h
  have hf : fnd [(na, eA a c)] na = 0 := by unfold fnd; rw [fndF, if_pos rfl]; rfl
  have hp : Pre bLe 1 (wst [(na, eA a c)] (mbF g lf)) [false] := ⟨rfl, fun i y hy => by
    have hi : i = 0 := by have := (List.getElem?_eq_some_iff.1 hy).1; simp at this; omega
    subst hi
    rw [wst_at (r := (na, eA a c)) rfl]
    have h2 : (eA a c).iw (mbF g lf) (ofL false [(na, eA a c)] [false]) = false := by
      have h4 : ofL false [(na, eA a c)] [false] na = false := by unfold ofL; rw [hf]; rfl
      generalize ofL false [(na, eA a c)] [false] = R at *
      generalize mbF g lf = mb at *
      unfold eA exo at *
      have h7 : (Ex.mk 4 0 na none 0 []).iw mb R = false := by rw [Ex.iw, if_pos rfl, h4]
      rw [Ex.iw, if_neg (by decide), iwL, h7]
      rfl
    rw [h2]
    intro h; cases h⟩
  have hle := hL.least _ hp
  have hlen : lb.length = 1 := hL.pre.len
  obtain ⟨y, rfl⟩ := List.length_eq_one_iff.1 hlen
  have hy : y = false := by
    have := hle.2 0 y false rfl rfl
    cases y
    · rfl
    · exact absurd (this rfl) (by decide)
  subst hy
  exact h1
theorem eS_nodes (a : Option Addr) (c : Nat) (a' : Option Addr) (c' : Nat) : (estar a c (eO a' c')).nodes 1 = [(1, estar a c (eO a' c')), (2, eO a' c'), (3, elit nx)] := by
  unfold estar eO elit exo
  rw [Ex.nodes, nodesL, nodesL, Ex.nodes, nodesL, nodesL, Ex.nodes, nodesL, w2, w3]
  rfl
theorem eS_check (a : Option Addr) (c : Nat) (a' : Option Addr) (c' : Nat) : check (estar a c (eO a' c')) = 0 := by
  unfold check
  rw [eS_nodes]
  rw [chk, if_neg (by decide), if_neg (by decide), if_pos (f7 _ _ _), chk, if_neg (by decide), if_neg (by decide), if_pos (show formOk (eO a' c') = true from f9 _ _ _), chk, if_neg (by decide), if_neg (by decide), if_pos fx, chk]
theorem eS_refs (a : Option Addr) (c : Nat) (a' : Option Addr) (c' : Nat) : refsR (estar a c (eO a' c')) = [] := by
  unfold refsR
  rw [if_pos (eS_check a c a' c'), eS_nodes]
  rfl
theorem eS_w9 (g : Gr) (n e : Int) (a : Option Addr) (c : Nat) (a' : Option Addr) (c' : Nat) (hg : g.rules = [(na, estar a c (eO a' c'))]) (h : W9 g n e) : n = 0 ∧ e = 9 := by
  rcases h with ⟨h0, -⟩ | ⟨-, lf, -, h⟩
  · exact absurd (by rw [hg]; exact one_check0 _ (eS_check a c a' c') (eS_refs a c a' c')) h0
  have hlp : (estar a c (eO a' c')).lp (mbF g lf) = true := by
    have h3 := mb_opt g lf a' c'
    unfold estar eO elit exo at *
    rw [Ex.lp, lpL, h3]
    rfl
  unfold WellN at h
  rw [hg, fiF, if_pos hlp] at h
  exact h
/-! Where they lie. -/
theorem kid_in (k : Int) (x : Ex) (W : World) (hx : x.In W.heap.size W) : Below W.heap.size W (W.alloc (.cells x.cells 57)) ∧ (exo k ByteArray.empty (some ⟨W.heap.size, 0, none⟩) 1 [x]).In (W.alloc (.cells x.cells 57)).heap.size (W.alloc (.cells x.cells 57)) := by
  have hb := (Below.refl W.heap.size W).alloc (Nat.le_refl _) (.cells x.cells 57)
  refine ⟨hb, ?_⟩
  unfold exo
  rw [Ex.In, Ex.In.InL, Ex.In.InL]
  refine ⟨⟨by simp, by decide⟩, ⟨W.heap.size, 0, rfl, by simp, fun j hj => ?_⟩, (hx.below hb).mono hb.size, trivial⟩
  simp only [Nat.zero_mul, Nat.zero_add]
  rw [(BoxN.new W 57 x.cells).cell j]
def two7 : Array Value := #[.int .i64 4, .int .u64 0, .int .u64 0, .int .u64 0, .int .u64 0, .string na, .slice none 0 0, .int .i64 3, .int .u64 0, .int .u64 0, .int .u64 0, .int .u64 0, .string nx, .slice none 0 0]
theorem leaf_in (k : Int) (t : ByteArray) (ht : t.size ≤ 140737488355328) (N : Nat) (W : World) : (exo k t none 0 []).In N W := by
  unfold exo
  rw [Ex.In]
  exact ⟨⟨by simp, ht⟩, by rw [Ex.In.InL]; trivial⟩
theorem two_in (W : World) : Below W.heap.size W (W.alloc (.cells two7 57)) ∧ (eA (some ⟨W.heap.size, 0, none⟩) 2).In (W.alloc (.cells two7 57)).heap.size (W.alloc (.cells two7 57)) := by
  refine ⟨(Below.refl W.heap.size W).alloc (Nat.le_refl _) _, ?_⟩
  have h4 := fun N W => leaf_in 4 na (by decide) N W
  have h3 := fun N W => leaf_in 3 nx (by decide) N W
  unfold exo at h4 h3
  unfold eA exo
  rw [Ex.In, Ex.In.InL, Ex.In.InL, Ex.In.InL]
  refine ⟨⟨by simp, by decide⟩, ⟨W.heap.size, 0, rfl, by simp, fun j hj => ?_⟩, h4 _ _, ⟨W.heap.size, 0, rfl, by simp, fun j hj => ?_⟩, h3 _ _, trivial⟩
  · simp only [Nat.zero_mul, Nat.zero_add]
    rw [(BoxN.new W 57 two7).cell j]
    match j, hj with
    | 0, _ => rfl
    | 1, _ => rfl
    | 2, _ => rfl
    | 3, _ => rfl
    | 4, _ => rfl
    | 5, _ => rfl
    | 6, _ => rfl
  · simp only [Nat.zero_add]
    rw [(BoxN.new W 57 two7).cell]
    match j, hj with
    | 0, _ => rfl
    | 1, _ => rfl
    | 2, _ => rfl
    | 3, _ => rfl
    | 4, _ => rfl
    | 5, _ => rfl
    | 6, _ => rfl
end Go.Proofs.Ytokdaapmejccbaa
namespace Go.Proofs.Ytokdaapmejccbaa
open Go.RowKit
set_option linter.unusedVariables false
set_option linter.unusedSimpArgs false
theorem eO_cells (B : Nat) : (eO (some ⟨B, 0, none⟩) 1).cells = #[.int .i64 9, .int .u64 0, .int .u64 0, .int .u64 0, .int .u64 0, .string ByteArray.empty, .slice (some ⟨B, 0, none⟩) 1 1] := by
  simp only [eO, Ex.cells, exo, Ex.k, Ex.S, Ex.t, Ex.a, Ex.c, Ex.kids, wd_none, List.length_cons, List.length_nil]
theorem eA_run (g : Gr) (a : Option Addr) (c : Nat) (hg : g.rules = [(na, eA a c)]) (W : World) (hin : g.In W.heap.size W) : Calls Try.prog 28 #[g.val] W fun r W' => r = .returned (.tuple #[.int .i64 0, .int .i64 8]) ∧ Below W.heap.size W W' := by
  obtain ⟨n, e, h⟩ := w9_ex g
  obtain ⟨rfl, rfl⟩ := eA_w9 g n e a c hg h
  exact well_fix g h W hin
theorem eS_run (g : Gr) (a : Option Addr) (c : Nat) (a' : Option Addr) (c' : Nat) (hg : g.rules = [(na, estar a c (eO a' c'))]) (W : World) (hin : g.In W.heap.size W) : Calls Try.prog 28 #[g.val] W fun r W' => r = .returned (.tuple #[.int .i64 0, .int .i64 9]) ∧ Below W.heap.size W W' := by
  obtain ⟨n, e, h⟩ := w9_ex g
  obtain ⟨rfl, rfl⟩ := eS_w9 g n e a c a' c' hg h
  exact well_fix g h W hin
set_option maxRecDepth 20000 in
set_option maxHeartbeats 8000000 in
theorem wellEnds_any (g : Gr) (T : ByteArray) (w : World) (hin : g.In w.heap.size w) :
    Calls Try.prog 8 #[g.val, .string T] w fun r W' => r = .returned (.bool true) ∧ Below w.heap.size w W' := by
  obtain ⟨n9, e9, h9⟩ := w9_ex g
  have HB : Hid (Gbx g w _) := Gbx.new g w
  have hl := lit_any nx
  have hrf := ref_any na
  have ho5 : ∀ (B : Nat) (W : World), _ := fun B W => of_any 5 (some ⟨B, 0, none⟩) [exo 4 na none 0 [], exo 3 nx none 0 []] 2 W
  have ho9 : ∀ (B : Nat) (W : World), _ := fun B W => of_any 9 (some ⟨B, 0, none⟩) [elit nx] 1 W
  have ho7 : ∀ (B B' : Nat) (W : World), _ := fun B B' W => of_any 7 (some ⟨B, 0, none⟩) [eO (some ⟨B', 0, none⟩) 1] 1 W
  have h1 : ∀ (B : Nat) (W : World) (hin : (eA (some ⟨B, 0, none⟩) 2).In W.heap.size W), _ := fun B W hin => one_any (eA (some ⟨B, 0, none⟩) 2) W hin
  have hv : ∀ B : Nat, (eA (some ⟨B, 0, none⟩) 2).val = _ := fun B => exo_val 5 ByteArray.empty (some ⟨B, 0, none⟩) 2 [exo 4 na none 0 [], exo 3 nx none 0 []]
  have h2 : ∀ (B B' : Nat) (W : World) (hin : (estar (some ⟨B, 0, none⟩) 1 (eO (some ⟨B', 0, none⟩) 1)).In W.heap.size W), _ := fun B B' W hin => one_any (estar (some ⟨B, 0, none⟩) 1 (eO (some ⟨B', 0, none⟩) 1)) W hin
  have hv2 : ∀ B B' : Nat, (estar (some ⟨B, 0, none⟩) 1 (eO (some ⟨B', 0, none⟩) 1)).val = _ := fun B B' => exo_val 7 ByteArray.empty (some ⟨B, 0, none⟩) 1 [eO (some ⟨B', 0, none⟩) 1]
  simp only [List.length_cons, List.length_nil, Nat.zero_add] at hv hv2 ho5 ho9 ho7
  have hwl := fun (W : World) (hb : Below w.heap.size w W) => well_fix g h9 W (hin.grow hb)
  rw [exo_val] at hl hrf
  unfold nx at hl
  unfold na at hrf
  by_cases h0 : e9 = 0
  · subst h0
    by_cases hT : T.size ≤ 60
    · have hlk : lkE T 0 = 0 := by unfold lkE; rw [if_neg (by decide), if_neg (by omega)]
      obtain ⟨-, -, hok, hB, lf, hW⟩ := h9.ok
      obtain ⟨r0, hr0⟩ : ∃ r, g.rules[0]? = some r := ⟨_, List.getElem?_eq_getElem hok.pos⟩
      obtain ⟨o, L, hP⟩ := pk_ex h9 T hT hr0 (p := 0) (Nat.zero_le _)
      have hp := fun (W : World) (hb : Below w.heap.size w W) => packRun_ok g T h9 hlk hP W (hin.grow hb)
      have hmost := hok.most
      have hfew := hP.few
      have hprod : g.rules.length * (T.size + 1) ≤ 10 * 61 := Nat.mul_le_mul hok.most (by omega)
      have hcast : ((g.rules.length * (T.size + 1) : Nat) : Int) = (g.rules.length : Int) * ((T.size : Int) + 1) := by rw [Int.natCast_mul]; rfl
      have q0 : wrap64 ((g.rules.length : Int) * ((T.size : Int) + 1)) = (g.rules.length : Int) * ((T.size : Int) + 1) := by unfold wrap64; omega
      have q3 : ¬ (g.rules.length : Int) * ((T.size : Int) + 1) < (L.length : Int) := by omega
      have q4 : ¬ (L.length : Int) < 1 := by omega
      have q5 : ¬ (60 : Int) < (T.size : Int) := by omega
      rw [gval_eq] at hp ⊢
      unfold oval at hp
      obtain ⟨z, k, hzk⟩ := oc_form 0 o
      rw [hzk] at hp
      clear h9 hin hP hr0 hW hB hok hlk hzk hcast hprod hfew
      go_enter Try.func8, Try.ntmps8
      go_wp2_with (first
      | (go_at_call 30; refine (hrf _).mono ?_; rintro e0 W0 ⟨rfl, hb0⟩; have HB0 : Hid _ := HB.out.step hb0; clear hb0 hrf)
      | (go_at_call 26; refine (hl _).mono ?_; rintro e1 W1 ⟨rfl, hb1⟩; have HB1 : Hid _ := HB0.out.step hb1; clear hb1 HB0)
      | (go_at_call 29; refine (ho5 W1.heap.size _).mono ?_; rintro e2 W2 ⟨rfl, hb2⟩; rw [exo_val]; have hI := two_in W1; have hI2 := hI.2.grow hb2; have HB2 : Hid _ := (HB1.out.step hI.1).step hb2; have h11 := h1 _ _ hI2; rw [hv] at h11; clear hb2 hI hI2 ho5 HB1)
      | (go_at_call 25; refine h11.mono ?_; rintro e3 W3 ⟨g1, rfl, hg1, hin1, hb3⟩; have HB3 : Hid _ := HB2.out.step hb3; have h28 := eA_run g1 _ _ hg1 W3 hin1; rw [gval_eq] at h28; clear hb3 h11 HB2)
      | (go_at_call 28; refine h28.mono ?_; rintro e4 W4 ⟨rfl, hb4⟩; have HB4 : Hid _ := HB3.out.step hb4; clear hb4 h28 HB3)
      | (go_at_call 26; refine (hl _).mono ?_; rintro e5 W5 ⟨rfl, hb5⟩; have HB5 : Hid _ := HB4.out.step hb5; clear hb5 HB4)
      | (go_at_call 29; refine (ho9 W5.heap.size _).mono ?_; rintro e6 W6 ⟨rfl, hb6⟩; rw [exo_val]; have hI := kid_in 9 (elit nx) W5 (leaf_in 3 nx (by decide) _ _); have hI6 := hI.2.grow hb6; have HB6 : Hid _ := (HB5.out.step hI.1).step hb6; clear hb6 hI ho9 HB5)
      | (go_at_call 29; refine (ho7 W6.heap.size W5.heap.size _).mono ?_; rintro e7 W7 ⟨rfl, hb7⟩; rw [exo_val]; have hJ := kid_in 7 (eO (some ⟨W5.heap.size, 0, none⟩) 1) W6 hI6; rw [eO_cells] at hJ; have hJ7 := hJ.2.grow hb7; have HB7 : Hid _ := (HB6.out.step hJ.1).step hb7; have h12 := h2 _ _ _ hJ7; rw [hv2] at h12; clear hb7 hJ hJ7 hI6 HB6 ho7)
      | (go_at_call 25; refine h12.mono ?_; rintro e8 W8 ⟨g2, rfl, hg2, hin2, hb8⟩; have HB8 : Hid _ := HB7.out.step hb8; have h29 := eS_run g2 _ _ _ _ hg2 W8 hin2; rw [gval_eq] at h29; clear hb8 h12 HB7)
      | (go_at_call 28; refine h29.mono ?_; rintro e9' W9' ⟨rfl, hb9⟩; have HB9 : Hid _ := HB8.out.step hb9; have c9 := HB9.out.cell; have hw9 := hwl _ HB9.out.bel; rw [gval_eq] at hw9; clear hb9 h29 HB8)
      | (go_at_call 28; refine hw9.mono ?_; rintro e10 W10 ⟨rfl, hb10⟩; have HB10 : Hid _ := HB9.out.step hb10; have c10 := HB10.out.cell; have hp10 := hp _ HB10.out.bel; clear hb10 hw9 HB9 c9)
      | (go_at_call 20; refine hp10.mono ?_; rintro e11 W11 ⟨sv, rfl, hb11, hrow⟩; obtain ⟨sa, sc, rfl⟩ := row_form hrow; have HB11 : Hid (Gbx g w (W11.alloc (.cells #[.bool z, .int .i64 k] 29))) := (HB10.out.step hb11).alloc _; have c11 := HB11.out.cell; clear hb11 hrow hp10))
      exact bodyPost_ret (by simp [results, Try.results8, go_sem]) rfl ⟨rfl, HB11.out.bel⟩
    · have hlk : lkE T 0 = 2 := by unfold lkE; rw [if_neg (by decide), if_pos (by omega)]
      have hp := fun (W : World) (hb : Below w.heap.size w W) => packRun_bad g T h9 (by rw [hlk]; decide) W (hin.grow hb)
      have q5 : (60 : Int) < (T.size : Int) := by omega
      rw [hlk] at hp
      rw [gval_eq] at hp ⊢
      unfold oval ocells at hp
      clear h9 hin hlk
      go_enter Try.func8, Try.ntmps8
      go_wp2_with (first
      | (go_at_call 30; refine (hrf _).mono ?_; rintro e0 W0 ⟨rfl, hb0⟩; have HB0 : Hid _ := HB.out.step hb0; clear hb0 hrf)
      | (go_at_call 26; refine (hl _).mono ?_; rintro e1 W1 ⟨rfl, hb1⟩; have HB1 : Hid _ := HB0.out.step hb1; clear hb1 HB0)
      | (go_at_call 29; refine (ho5 W1.heap.size _).mono ?_; rintro e2 W2 ⟨rfl, hb2⟩; rw [exo_val]; have hI := two_in W1; have hI2 := hI.2.grow hb2; have HB2 : Hid _ := (HB1.out.step hI.1).step hb2; have h11 := h1 _ _ hI2; rw [hv] at h11; clear hb2 hI hI2 ho5 HB1)
      | (go_at_call 25; refine h11.mono ?_; rintro e3 W3 ⟨g1, rfl, hg1, hin1, hb3⟩; have HB3 : Hid _ := HB2.out.step hb3; have h28 := eA_run g1 _ _ hg1 W3 hin1; rw [gval_eq] at h28; clear hb3 h11 HB2)
      | (go_at_call 28; refine h28.mono ?_; rintro e4 W4 ⟨rfl, hb4⟩; have HB4 : Hid _ := HB3.out.step hb4; clear hb4 h28 HB3)
      | (go_at_call 26; refine (hl _).mono ?_; rintro e5 W5 ⟨rfl, hb5⟩; have HB5 : Hid _ := HB4.out.step hb5; clear hb5 HB4)
      | (go_at_call 29; refine (ho9 W5.heap.size _).mono ?_; rintro e6 W6 ⟨rfl, hb6⟩; rw [exo_val]; have hI := kid_in 9 (elit nx) W5 (leaf_in 3 nx (by decide) _ _); have hI6 := hI.2.grow hb6; have HB6 : Hid _ := (HB5.out.step hI.1).step hb6; clear hb6 hI ho9 HB5)
      | (go_at_call 29; refine (ho7 W6.heap.size W5.heap.size _).mono ?_; rintro e7 W7 ⟨rfl, hb7⟩; rw [exo_val]; have hJ := kid_in 7 (eO (some ⟨W5.heap.size, 0, none⟩) 1) W6 hI6; rw [eO_cells] at hJ; have hJ7 := hJ.2.grow hb7; have HB7 : Hid _ := (HB6.out.step hJ.1).step hb7; have h12 := h2 _ _ _ hJ7; rw [hv2] at h12; clear hb7 hJ hJ7 hI6 HB6 ho7)
      | (go_at_call 25; refine h12.mono ?_; rintro e8 W8 ⟨g2, rfl, hg2, hin2, hb8⟩; have HB8 : Hid _ := HB7.out.step hb8; have h29 := eS_run g2 _ _ _ _ hg2 W8 hin2; rw [gval_eq] at h29; clear hb8 h12 HB7)
      | (go_at_call 28; refine h29.mono ?_; rintro e9' W9' ⟨rfl, hb9⟩; have HB9 : Hid _ := HB8.out.step hb9; have c9 := HB9.out.cell; have hw9 := hwl _ HB9.out.bel; rw [gval_eq] at hw9; clear hb9 h29 HB8)
      | (go_at_call 28; refine hw9.mono ?_; rintro e10 W10 ⟨rfl, hb10⟩; have HB10 : Hid _ := HB9.out.step hb10; have c10 := HB10.out.cell; have hp10 := hp _ HB10.out.bel; clear hb10 hw9 HB9 c9)
      | (go_at_call 20; refine hp10.mono ?_; rintro e11 W11 ⟨rfl, hb11⟩; have HB11 : Hid (Gbx g w (W11.alloc (.cells #[.bool false, .int .i64 0] 29))) := (HB10.out.step hb11).alloc _; clear hb11 hp10))
      exact bodyPost_ret (by simp [results, Try.results8, go_sem]) rfl ⟨rfl, HB11.out.bel⟩
  · have hlk : lkE T e9 = e9 := by unfold lkE; rw [if_pos h0]
    have hp := fun (W : World) (hb : Below w.heap.size w W) => packRun_bad g T h9 (by rw [hlk]; exact h0) W (hin.grow hb)
    rw [hlk] at hp
    rw [gval_eq] at hp ⊢
    unfold oval ocells at hp
    have q1 : (e9 != 0) = true := by simpa using h0
    clear h9 hin hlk
    go_enter Try.func8, Try.ntmps8
    go_wp2_with (first
      | (go_at_call 30; refine (hrf _).mono ?_; rintro e0 W0 ⟨rfl, hb0⟩; have HB0 : Hid _ := HB.out.step hb0; clear hb0 hrf)
      | (go_at_call 26; refine (hl _).mono ?_; rintro e1 W1 ⟨rfl, hb1⟩; have HB1 : Hid _ := HB0.out.step hb1; clear hb1 HB0)
      | (go_at_call 29; refine (ho5 W1.heap.size _).mono ?_; rintro e2 W2 ⟨rfl, hb2⟩; rw [exo_val]; have hI := two_in W1; have hI2 := hI.2.grow hb2; have HB2 : Hid _ := (HB1.out.step hI.1).step hb2; have h11 := h1 _ _ hI2; rw [hv] at h11; clear hb2 hI hI2 ho5 HB1)
      | (go_at_call 25; refine h11.mono ?_; rintro e3 W3 ⟨g1, rfl, hg1, hin1, hb3⟩; have HB3 : Hid _ := HB2.out.step hb3; have h28 := eA_run g1 _ _ hg1 W3 hin1; rw [gval_eq] at h28; clear hb3 h11 HB2)
      | (go_at_call 28; refine h28.mono ?_; rintro e4 W4 ⟨rfl, hb4⟩; have HB4 : Hid _ := HB3.out.step hb4; clear hb4 h28 HB3)
      | (go_at_call 26; refine (hl _).mono ?_; rintro e5 W5 ⟨rfl, hb5⟩; have HB5 : Hid _ := HB4.out.step hb5; clear hb5 HB4)
      | (go_at_call 29; refine (ho9 W5.heap.size _).mono ?_; rintro e6 W6 ⟨rfl, hb6⟩; rw [exo_val]; have hI := kid_in 9 (elit nx) W5 (leaf_in 3 nx (by decide) _ _); have hI6 := hI.2.grow hb6; have HB6 : Hid _ := (HB5.out.step hI.1).step hb6; clear hb6 hI ho9 HB5)
      | (go_at_call 29; refine (ho7 W6.heap.size W5.heap.size _).mono ?_; rintro e7 W7 ⟨rfl, hb7⟩; rw [exo_val]; have hJ := kid_in 7 (eO (some ⟨W5.heap.size, 0, none⟩) 1) W6 hI6; rw [eO_cells] at hJ; have hJ7 := hJ.2.grow hb7; have HB7 : Hid _ := (HB6.out.step hJ.1).step hb7; have h12 := h2 _ _ _ hJ7; rw [hv2] at h12; clear hb7 hJ hJ7 hI6 HB6 ho7)
      | (go_at_call 25; refine h12.mono ?_; rintro e8 W8 ⟨g2, rfl, hg2, hin2, hb8⟩; have HB8 : Hid _ := HB7.out.step hb8; have h29 := eS_run g2 _ _ _ _ hg2 W8 hin2; rw [gval_eq] at h29; clear hb8 h12 HB7)
      | (go_at_call 28; refine h29.mono ?_; rintro e9' W9' ⟨rfl, hb9⟩; have HB9 : Hid _ := HB8.out.step hb9; have c9 := HB9.out.cell; have hw9 := hwl _ HB9.out.bel; rw [gval_eq] at hw9; clear hb9 h29 HB8)
      | (go_at_call 28; refine hw9.mono ?_; rintro e10 W10 ⟨rfl, hb10⟩; have HB10 : Hid _ := HB9.out.step hb10; have c10 := HB10.out.cell; have hp10 := hp _ HB10.out.bel; clear hb10 hw9 HB9 c9)
      | (go_at_call 20; refine hp10.mono ?_; rintro e11 W11 ⟨rfl, hb11⟩; have HB11 : Hid (Gbx g w (W11.alloc (.cells #[.bool false, .int .i64 0] 29))) := (HB10.out.step hb11).alloc _; clear hb11 hp10))
    exact bodyPost_ret (by simp [results, Try.results8, go_sem]) rfl ⟨rfl, HB11.out.bel⟩
end Go.Proofs.Ytokdaapmejccbaa
