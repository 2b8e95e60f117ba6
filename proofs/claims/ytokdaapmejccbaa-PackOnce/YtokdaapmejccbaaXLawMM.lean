import Derived.Test.YtokdaapmejccbaaXLwA
import Derived.Test.YtokdaapmejccbaaXSchA
import Derived.Deep.Cut
namespace Go.Proofs.Ytokdaapmejccbaa
open Go.RowKit
set_option linter.unusedVariables false
set_option linter.unusedSimpArgs false
/-- The grammar's box, and what lies below. -/
structure Gbx (g : Gr) (w W : World) : Prop where
  bel : Below w.heap.size w W
  box : BoxN W w.heap.size 24 #[.slice g.a g.rules.length g.c]
theorem Gbx.step {g : Gr} {w W W' : World} (h : Gbx g w W) (hb : Below W.heap.size W W') : Gbx g w W' := ⟨h.bel.trans (hb.mono h.bel.size), h.box.below hb h.box.lt⟩
theorem Gbx.new (g : Gr) (w : World) : Gbx g w (w.alloc (.cells #[.slice g.a g.rules.length g.c] 24)) := ⟨(Below.refl _ w).alloc (Nat.le_refl _) _, BoxN.new w 24 _⟩
theorem Gbx.cell {g : Gr} {w W : World} (h : Gbx g w W) : W.cell? ⟨w.heap.size, 0, none⟩ = some (.slice g.a g.rules.length g.c) := h.box.cell 0
/-- What it is where it is too much, or wrong; and where it is right. -/
theorem mrun_cases (T : ByteArray) (e : Int) (o : Ot) (n : Nat) : (∃ e2 : Int, e2 ≠ 0 ∧ mrun T e o n 1048576 = .tuple #[.agg #[.bool false, .int .i64 0], .int .i64 0, .int .i64 e2]) ∨ (lkE T e = 0 ∧ n ≤ 1048576 ∧ mrun T e o n 1048576 = .tuple #[oval 0 o, .int .i64 (n : Int), .int .i64 0]) := by
  unfold mrun
  by_cases h0 : lkE T e = 0
  · rw [if_neg (by simpa using h0), if_neg (by omega)]
    unfold anR
    rw [show (1048576 : Int).toNat = 1048576 from rfl]
    by_cases hn : n ≤ 1048576
    · rw [if_pos hn]; exact .inr ⟨h0, hn, rfl⟩
    · rw [if_neg hn]; exact .inl ⟨10, by decide, rfl⟩
  · rw [if_pos h0]; exact .inl ⟨_, h0, rfl⟩
theorem mrun_more (T : ByteArray) (e : Int) (o : Ot) (n s : Nat) (h0 : lkE T e = 0) (hs : s ≤ 1048576) (hn : n ≤ s) : mrun T e o n (s : Int) = .tuple #[oval 0 o, .int .i64 (n : Int), .int .i64 0] := by
  unfold mrun anR
  rw [if_neg (by simpa using h0), if_neg (by omega), if_pos (by omega)]
theorem mrun_less (T : ByteArray) (e : Int) (o : Ot) (n s : Nat) (h0 : lkE T e = 0) (hs : s ≤ 1048576) (hn : s < n) : mrun T e o n (s : Int) = .tuple #[.agg #[.bool false, .int .i64 0], .int .i64 0, .int .i64 10] := by
  unfold mrun anR
  rw [if_neg (by simpa using h0), if_neg (by omega), if_neg (by omega)]
  rfl
/-- .. with a box of an outcome. -/
structure Gq1 (g : Gr) (w : World) (B : Nat) (cs : Array Value) (W : World) : Prop where
  gb : Gbx g w W
  bx : BoxN W B 29 cs
  lo : w.heap.size < B
theorem Gq1.step {g : Gr} {w W W' : World} {B : Nat} {cs : Array Value} (h : Gq1 g w B cs W) (hb : Below W.heap.size W W') : Gq1 g w B cs W' := ⟨h.gb.step hb, h.bx.below hb h.bx.lt, h.lo⟩
theorem Gq1.alloc {g : Gr} {w W : World} {B : Nat} {cs : Array Value} (h : Gq1 g w B cs W) (o : Obj) : Gq1 g w B cs (W.alloc o) := h.step ((Below.refl _ _).alloc (Nat.le_refl _) o)
theorem Gq1.drew {g : Gr} {w W : World} {B : Nat} {cs : Array Value} (h : Gq1 g w B cs W) : Gq1 g w B cs W.drew := h.step (Below.refl _ _).drew
theorem Gq1.new {g : Gr} {w W : World} (h : Gbx g w W) (cs : Array Value) : Gq1 g w W.heap.size cs (W.alloc (.cells cs 29)) := ⟨h.step ((Below.refl _ _).alloc (Nat.le_refl _) _), BoxN.new W 29 cs, h.box.lt⟩
theorem Gq1.put {g : Gr} {w W W' : World} {B : Nat} {cs cs' : Array Value} (h : Gq1 g w B cs W) (hx : BoxN W' B 29 cs') (hg : W.grownBy W' (some B)) : Gq1 g w B cs' W' :=
  ⟨⟨h.gb.bel.grown hg h.gb.bel.size (fun k hk => by cases hk; have := h.lo; omega), h.gb.box.kept hg (fun e => by have := Option.some.inj e; have := h.lo; omega)⟩, hx, h.lo⟩
theorem Gq1.other {g : Gr} {w W W' : World} {B B' : Nat} {cs cs' : Array Value} (h : Gq1 g w B cs W) (h' : Gq1 g w B' cs' W') (hne : B ≠ B') (hg : W.grownBy W' (some B')) : Gq1 g w B cs W' := ⟨h'.gb, h.bx.kept hg (fun e => hne (Option.some.inj e)), h.lo⟩
theorem Gbx.alloc {g : Gr} {w W : World} (h : Gbx g w W) (o : Obj) : Gbx g w (W.alloc o) := h.step ((Below.refl _ _).alloc (Nat.le_refl _) o)
set_option maxRecDepth 20000 in
set_option maxHeartbeats 8000000 in
theorem meanMore_any (g : Gr) (T : ByteArray) (more : Int) (w : World) (hin : g.In w.heap.size w) (hm : -9223372036854775808 ≤ more ∧ more ≤ 9223372036854775807) :
    Calls Try.prog 10 #[g.val, .string T, .int .i64 more] w fun r W' => r = .returned (.bool true) ∧ Below w.heap.size w W' := by
  obtain ⟨n9, e9, h9⟩ := w9_ex g
  obtain ⟨o, n, hS⟩ := sem_ex g T h9
  have HB : Hid (Gbx g w _) := Gbx.new g w
  have hl := lit_any nx
  have h1 := fun W hin => one_any (elit nx) W hin
  have hv : (elit nx).val = _ := exo_val 3 nx none 0 []
  have HR : Hid (∀ steps : Int, -9223372036854775808 ≤ steps ∧ steps ≤ 9223372036854775807 → ∀ W, Below w.heap.size w W → Calls Try.prog 16 #[g.val, .string T, .int .i64 steps] W fun r W' => r = .returned (mrun T e9 o n steps) ∧ Below W.heap.size W W') := fun steps hs W hb => mrun_any g T steps h9 hS hs W (hin.grow hb)
  have HN : Hid (lkE T e9 = 0 → 1 ≤ n) := fun h0 => by
    obtain ⟨r0, f, -, hf⟩ := hS h0
    exact ev_pos g _ f _ _ o n hf
  have HX : Hid (∀ W, (elit nx).In W.heap.size W) := fun W => by
    unfold elit exo
    rw [Ex.In]
    exact ⟨⟨by simp, by decide⟩, by rw [Ex.In.InL]; trivial⟩
  have hq := fun a b x y W => eq_oc a b x y W
  rw [hv] at h1
  rw [show (exo 3 nx none 0 []).val = _ from hv] at hl
  rw [gval_eq] at HR ⊢
  have hr := fun W => HR.out 1048576 (by omega) W
  unfold nx at hl h1
  clear hin h9 hS hv
  rcases mrun_cases T e9 o n with ⟨e2, he2, hr2⟩ | ⟨h0, hn, hr2⟩
  · rw [hr2] at hr
    have g2 : (e2 != 0) = true := by simpa using he2
    clear hr2
    go_enter Try.func10, Try.ntmps10
    go_wp2_with (first
      | (go_at_call 26; refine (hl _).mono ?_; rintro e1 W1 ⟨rfl, hb1⟩; have HB1 : Hid _ := HB.out.step hb1; have h11 := h1 W1 (HX.out W1); clear hb1)
      | (go_at_call 25; refine h11.mono ?_; rintro e2 W2 ⟨g1, rfl, hg1, hin1, hb2⟩; have HB2 : Hid _ := HB1.out.step hb2; have h16 := one_run g1 hg1 W2 hin1; rw [gval_eq] at h16; clear hb2)
      | (go_at_call 16; refine h16.mono ?_; rintro e3 W3 ⟨rfl, hb3⟩; have HB3 : Hid (Gbx g w (W3.alloc (.cells #[.bool true, .int .i64 1] 29))) := (HB2.out.step hb3).alloc _; have c3 := HB3.out.cell; have hr3 := hr _ HB3.out.bel; clear hb3 h16)
      | (go_at_call 16; refine hr3.mono ?_; rintro e4 W4 ⟨rfl, hb4⟩; have HB4 : Hid (Gbx g w (W4.alloc (.cells #[.bool false, .int .i64 0] 29))) := (HB3.out.step hb4).alloc _; clear hb4 hr3))
    go_ret
    exact ⟨rfl, HB4.out.bel⟩
  · rw [hr2] at hr
    unfold oval at hr
    obtain ⟨z, k, hzk⟩ := oc_form 0 o
    rw [hzk] at hr
    have hn1 := HN.out h0
    have HM : Hid (∀ s : Nat, s ≤ 1048576 → (n ≤ s → mrun T e9 o n (s : Int) = .tuple #[.agg #[.bool z, .int .i64 k], .int .i64 (n : Int), .int .i64 0]) ∧ (s < n → mrun T e9 o n (s : Int) = .tuple #[.agg #[.bool false, .int .i64 0], .int .i64 0, .int .i64 10])) := fun s hs => ⟨fun h => by rw [mrun_more T e9 o n s h0 hs h]; unfold oval; rw [hzk], fun h => mrun_less T e9 o n s h0 hs h⟩
    have q1 : ¬ (n : Int) < 1 := by omega
    have q2 : ¬ (1048576 : Int) < (n : Int) := by omega
    clear hr2 hzk
    go_enter Try.func10, Try.ntmps10
    go_wp2_with (first
      | (go_at_call 26; refine (hl _).mono ?_; rintro e1 W1 ⟨rfl, hb1⟩; have HB1 : Hid _ := HB.out.step hb1; have h11 := h1 W1 (HX.out W1); clear hb1)
      | (go_at_call 25; refine h11.mono ?_; rintro e2 W2 ⟨g1, rfl, hg1, hin1, hb2⟩; have HB2 : Hid _ := HB1.out.step hb2; have h16 := one_run g1 hg1 W2 hin1; rw [gval_eq] at h16; clear hb2)
      | (go_at_call 16; refine h16.mono ?_; rintro e3 W3 ⟨rfl, hb3⟩; have HB3 : Hid (Gbx g w (W3.alloc (.cells #[.bool true, .int .i64 1] 29))) := (HB2.out.step hb3).alloc _; have c3 := HB3.out.cell; have hr3 := hr _ HB3.out.bel; clear hb3 h16)
      | (go_at_call 16; refine hr3.mono ?_; rintro e4 W4 ⟨rfl, hb4⟩; have HB4W : Hid (Gbx g w W4) := HB3.out.step hb4; have HB4 : Hid (Gbx g w (W4.alloc (.cells #[.bool z, .int .i64 k] 29))) := HB4W.out.alloc _; have c4 := HB4.out.cell; clear hb4 hr3))
    have hwi := fun W => within_any more (1048576 - n + 1) (by omega) (by omega) W hm
    rw [show ((1048576 - n + 1 : Nat) : Int) = 1048576 - (n : Int) + 1 from by omega] at hwi
    have hwj := fun W => within_any more n hn1 (by omega) W hm
    have hr9 : ∀ k5 : Nat, k5 < 1048576 - n + 1 → ∀ W, Below w.heap.size w W → Calls Try.prog 16 #[.agg #[.slice g.a g.rules.length g.c], .string T, .int .i64 ((n : Int) + (k5 : Int))] W fun r W' => r = .returned (.tuple #[.agg #[.bool z, .int .i64 k], .int .i64 (n : Int), .int .i64 0]) ∧ Below W.heap.size W W' := fun k5 hk5 W hb => by
      have := HR.out ((n + k5 : Nat) : Int) (by omega) W hb
      rw [(HM.out (n + k5) (by omega)).1 (by omega), show ((n + k5 : Nat) : Int) = (n : Int) + (k5 : Int) from by omega] at this
      exact this
    have hr10 : ∀ k6 : Nat, k6 < n → ∀ W, Below w.heap.size w W → Calls Try.prog 16 #[.agg #[.slice g.a g.rules.length g.c], .string T, .int .i64 (k6 : Int)] W fun r W' => r = .returned (.tuple #[.agg #[.bool false, .int .i64 0], .int .i64 0, .int .i64 10]) ∧ Below W.heap.size W W' := fun k6 hk6 W hb => by
      have := HR.out (k6 : Int) (by omega) W hb
      rw [(HM.out k6 (by omega)).2 hk6] at this
      exact this
    have HB4g : Hid (Gbx g w W4) := HB4W.out
    go_cut [13, 14, 15] from 55 (fun s1 s2 s3 wx => ∃ pb : Nat, s1 = .pointer (some ⟨pb, 0, none⟩) ∧ s2 = .int .i64 (n : Int) ∧ s3 = .int .i64 0 ∧ Hid (Gq1 g w W4.heap.size #[.bool z, .int .i64 k] wx) ∧ Hid (Gq1 g w pb #[.bool z, .int .i64 k] wx))
    case first =>
      have HG : Hid (Gq1 g w W4.heap.size #[.bool z, .int .i64 k] _) := (Gq1.new HB4g.out #[.bool z, .int .i64 k]).drew
      clear c4 HB4 HB4W HB4g
      generalize W4.alloc (.cells #[.bool z, .int .i64 k] 29) = V4 at *
      refine wp_region_schA (fun W => W.cell? ⟨w.heap.size, 0, none⟩ = some (.slice g.a g.rules.length g.c)) 18 14 [(0,true),(1,true),(2,true),(3,true),(4,true),(5,true),(6,true),(7,false),(8,true),(9,false),(10,true),(11,true),(12,true),(13,true)] [(15,false),(16,true),(17,true)] _ (by kernel_rfl) (by kernel_rfl) (fun h => absurd h (by decide)) (by kernel_rfl) rfl (fun c a d v w h => by cases d <;> exact h) HG.out.gb.cell ?_
      iterate 7
        refine wpSchA_read rfl rfl ?_
        apply Exists.intro
        refine ⟨fun W hW => ?_, ?_⟩
        · have c0 := hW
          go_simp
          with_reducible rfl
        
        simp only [Act.put, List.setIfInBounds_toArray, List.set_cons_zero, List.set_cons_succ]
      refine wpSchA_list rfl rfl rfl rfl (fun K hK => ?_) (fun K hK => ?_)
      · go_wp2_with (go_at_call 33; refine (hwi _).mono ?_; rintro e5 W5 ⟨k5, hk5, rfl, rfl⟩)
        refine hK _ _ (fun _ => HG.out.gb.cell) ?_
        clear hK K
        iterate 1
          refine wpSchA_read rfl rfl ?_
          apply Exists.intro
          refine ⟨fun W hW => ?_, ?_⟩
          · have c0 := hW
            go_simp
            with_reducible rfl
          
          simp only [Act.put, List.setIfInBounds_toArray, List.set_cons_zero, List.set_cons_succ]
        refine wpSchA_list rfl rfl rfl rfl (fun K hK => ?_) (fun K hK => ?_)
        · go_wp2_with (go_at_call 16; refine (hr9 k5 hk5 _ HG.out.gb.bel).mono ?_; rintro e6 W6 ⟨rfl, hb6⟩)
          have HG : Hid _ := HG.out.step hb6
          clear hb6
          refine hK _ _ (fun _ => HG.out.gb.cell) ?_
          clear hK K
          iterate 4
            refine wpSchA_read rfl rfl ?_
            apply Exists.intro
            refine ⟨fun W hW => ?_, ?_⟩
            · have c0 := hW
              go_simp
              with_reducible rfl
            
            simp only [Act.put, List.setIfInBounds_toArray, List.set_cons_zero, List.set_cons_succ]
          refine wpSchA_last rfl rfl (fun K hK => ?_)
          go_wp2_with fail
          have HG0 : Hid _ := HG
          have HP : Hid (Gq1 g w W6.heap.size #[.bool false, .int .i64 0] _) := Gq1.new HG.out.gb #[.bool false, .int .i64 0]
          have HL : Hid _ := Nat.ne_of_lt HG.out.bx.lt
          have HG : Hid _ := HG.out.alloc (.cells #[.bool false, .int .i64 0] 29)
          refine hK _ _ (fun _ => HG.out.gb.cell) ?_
          clear hK K
          refine wpSch_list rfl rfl (fun K hK => ?_)
          go_wp2_with (refine wpList_store_box rfl 29 _ _ rfl _ _ rfl rfl _ HP.out.bx Try.info29 rfl (by simp [Value.oneCell']) ?_; intro w7 hx7 hg7)
          have HE : Hid (∃ B, True) := ⟨0, trivial⟩
          first
            | (have HP : Hid _ := HP.out.put hx7 hg7; have HG : Hid _ := HG.out.other HP.out HL.out hg7; clear hx7 hg7 HL
               refine hK _ _ (fun _ => HG.out.gb.cell) ?_)
            | (have HP : Hid (Gq1 g w _ #[.bool z, .int .i64 k] _) := Gq1.new HG0.out.gb #[.bool z, .int .i64 k]; have HG : Hid _ := HG0.out.alloc (.cells #[.bool z, .int .i64 k] 29)
               refine hK _ _ (fun _ => HG.out.gb.cell) ?_
               generalize W6.alloc (.cells #[.bool z, .int .i64 k] 29) = w7 at *)
          clear hK K
          iterate 2
            refine wpSch_read rfl rfl ?_
            apply Exists.intro
            refine ⟨fun W hW => ?_, ?_⟩
            · have c0 := hW
              go_simp
              with_reducible rfl
            show wpSch _ _ _ _ _ _ (Act.put _ (some _) _) _
            simp only [Act.put, List.setIfInBounds_toArray, List.set_cons_zero, List.set_cons_succ]
          unfold wpSch
          go_wp2_with fail
          go_meet
          case rel => exact ⟨_, rfl, rfl, rfl, HG, HP⟩
        · go_wp2_with fail
          have HG0 : Hid _ := HG
          have HP : Hid (Gq1 g w V4.heap.size #[.bool false, .int .i64 0] _) := Gq1.new HG.out.gb #[.bool false, .int .i64 0]
          have HL : Hid _ := Nat.ne_of_lt HG.out.bx.lt
          have HG : Hid _ := HG.out.alloc (.cells #[.bool false, .int .i64 0] 29)
          refine hK _ _ (fun _ => HG.out.gb.cell) ?_
          clear hK K
          simp only [List.cons_append, List.nil_append]
          refine wpSch_list rfl rfl (fun K hK => ?_)
          go_wp2_with (go_at_call 16; refine (hr9 k5 hk5 _ HG.out.gb.bel).mono ?_; rintro e6 W6 ⟨rfl, hb6⟩)
          have HG : Hid _ := HG.out.step hb6
          have HP : Hid _ := HP.out.step hb6
          clear hb6
          refine hK _ _ (fun _ => HG.out.gb.cell) ?_
          clear hK K
          iterate 4
            refine wpSch_read rfl rfl ?_
            apply Exists.intro
            refine ⟨fun W hW => ?_, ?_⟩
            · have c0 := hW
              go_simp
              with_reducible rfl
            show wpSch _ _ _ _ _ _ (Act.put _ (some _) _) _
            simp only [Act.put, List.setIfInBounds_toArray, List.set_cons_zero, List.set_cons_succ]
          refine wpSch_list rfl rfl (fun K hK => ?_)
          go_wp2_with (refine wpList_store_box rfl 29 _ _ rfl _ _ rfl rfl _ HP.out.bx Try.info29 rfl (by simp [Value.oneCell']) ?_; intro w7 hx7 hg7)
          have HE : Hid (∃ B, True) := ⟨0, trivial⟩
          first
            | (have HP : Hid _ := HP.out.put hx7 hg7; have HG : Hid _ := HG.out.other HP.out HL.out hg7; clear hx7 hg7 HL
               refine hK _ _ (fun _ => HG.out.gb.cell) ?_)
            | (have HP : Hid (Gq1 g w _ #[.bool z, .int .i64 k] _) := Gq1.new HG0.out.gb #[.bool z, .int .i64 k]; have HG : Hid _ := HG0.out.alloc (.cells #[.bool z, .int .i64 k] 29)
               refine hK _ _ (fun _ => HG.out.gb.cell) ?_
               generalize W6.alloc (.cells #[.bool z, .int .i64 k] 29) = w7 at *)
          clear hK K
          iterate 2
            refine wpSch_read rfl rfl ?_
            apply Exists.intro
            refine ⟨fun W hW => ?_, ?_⟩
            · have c0 := hW
              go_simp
              with_reducible rfl
            show wpSch _ _ _ _ _ _ (Act.put _ (some _) _) _
            simp only [Act.put, List.setIfInBounds_toArray, List.set_cons_zero, List.set_cons_succ]
          unfold wpSch
          go_wp2_with fail
          go_meet
          case rel => exact ⟨_, rfl, rfl, rfl, HG, HP⟩
      · go_wp2_with fail
        have HG0 : Hid _ := HG
        have HP : Hid (Gq1 g w V4.heap.size #[.bool false, .int .i64 0] _) := Gq1.new HG.out.gb #[.bool false, .int .i64 0]
        have HL : Hid _ := Nat.ne_of_lt HG.out.bx.lt
        have HG : Hid _ := HG.out.alloc (.cells #[.bool false, .int .i64 0] 29)
        refine hK _ _ (fun _ => HG.out.gb.cell) ?_
        clear hK K
        simp only [List.cons_append, List.nil_append]
        refine wpSch_list rfl rfl (fun K hK => ?_)
        go_wp2_with (go_at_call 33; refine (hwi _).mono ?_; rintro e5 W5 ⟨k5, hk5, rfl, rfl⟩)
        refine hK _ _ (fun _ => HG.out.gb.cell) ?_
        clear hK K
        iterate 1
          refine wpSch_read rfl rfl ?_
          apply Exists.intro
          refine ⟨fun W hW => ?_, ?_⟩
          · have c0 := hW
            go_simp
            with_reducible rfl
          show wpSch _ _ _ _ _ _ (Act.put _ (some _) _) _
          simp only [Act.put, List.setIfInBounds_toArray, List.set_cons_zero, List.set_cons_succ]
        refine wpSch_list rfl rfl (fun K hK => ?_)
        go_wp2_with (go_at_call 16; refine (hr9 k5 hk5 _ HG.out.gb.bel).mono ?_; rintro e6 W6 ⟨rfl, hb6⟩)
        have HG : Hid _ := HG.out.step hb6
        have HP : Hid _ := HP.out.step hb6
        clear hb6
        refine hK _ _ (fun _ => HG.out.gb.cell) ?_
        clear hK K
        iterate 4
          refine wpSch_read rfl rfl ?_
          apply Exists.intro
          refine ⟨fun W hW => ?_, ?_⟩
          · have c0 := hW
            go_simp
            with_reducible rfl
          show wpSch _ _ _ _ _ _ (Act.put _ (some _) _) _
          simp only [Act.put, List.setIfInBounds_toArray, List.set_cons_zero, List.set_cons_succ]
        refine wpSch_list rfl rfl (fun K hK => ?_)
        go_wp2_with (refine wpList_store_box rfl 29 _ _ rfl _ _ rfl rfl _ HP.out.bx Try.info29 rfl (by simp [Value.oneCell']) ?_; intro w7 hx7 hg7)
        have HE : Hid (∃ B, True) := ⟨0, trivial⟩
        first
          | (have HP : Hid _ := HP.out.put hx7 hg7; have HG : Hid _ := HG.out.other HP.out HL.out hg7; clear hx7 hg7 HL
             refine hK _ _ (fun _ => HG.out.gb.cell) ?_)
          | (have HP : Hid (Gq1 g w _ #[.bool z, .int .i64 k] _) := Gq1.new HG0.out.gb #[.bool z, .int .i64 k]; have HG : Hid _ := HG0.out.alloc (.cells #[.bool z, .int .i64 k] 29)
             refine hK _ _ (fun _ => HG.out.gb.cell) ?_
             generalize W6.alloc (.cells #[.bool z, .int .i64 k] 29) = w7 at *)
        clear hK K
        iterate 2
          refine wpSch_read rfl rfl ?_
          apply Exists.intro
          refine ⟨fun W hW => ?_, ?_⟩
          · have c0 := hW
            go_simp
            with_reducible rfl
          show wpSch _ _ _ _ _ _ (Act.put _ (some _) _) _
          simp only [Act.put, List.setIfInBounds_toArray, List.set_cons_zero, List.set_cons_succ]
        unfold wpSch
        go_wp2_with fail
        go_meet
        case rel => exact ⟨_, rfl, rfl, rfl, HG, HP⟩
    case rest =>
      obtain ⟨pb, rfl, rfl, rfl, HG, HP⟩ := hcut
      generalize W4.heap.size = ob at *
      have c5 := HG.out.gb.cell
      clear c4 c3
      go_wp2_with fail
      go_cut [18] from 69 (fun s wx => s = .int .i64 10 ∧ Hid (Gq1 g w ob #[.bool z, .int .i64 k] wx) ∧ Hid (Gq1 g w pb #[.bool z, .int .i64 k] wx))
      case first =>
        have HG : Hid _ := HG.out.drew
        have HP : Hid _ := HP.out.drew
        refine wp_region_schA (fun W => W.cell? ⟨w.heap.size, 0, none⟩ = some (.slice g.a g.rules.length g.c)) 14 10 [(0,true),(1,true),(2,true),(3,true),(4,false),(5,false),(6,true),(7,true),(8,true),(9,true)] [(11,false),(12,true),(13,true)] _ (by kernel_rfl) (by kernel_rfl) (fun h => absurd h (by decide)) (by kernel_rfl) rfl (fun c a d v w h => by cases d <;> exact h) HG.out.gb.cell ?_
        iterate 4
          refine wpSchA_read rfl rfl ?_
          apply Exists.intro
          refine ⟨fun W hW => ?_, ?_⟩
          · have c0 := hW
            go_simp
            with_reducible rfl
          
          simp only [Act.put, List.setIfInBounds_toArray, List.set_cons_zero, List.set_cons_succ]
        refine wpSchA_list rfl rfl rfl rfl (fun K hK => ?_) (fun K hK => ?_)
        · go_wp2_with (go_at_call 33; refine (hwj _).mono ?_; rintro e5 W5 ⟨k6, hk6, rfl, rfl⟩)
          refine hK _ _ (fun _ => HG.out.gb.cell) ?_
          clear hK K
          refine wpSchA_list rfl rfl rfl rfl (fun K hK => ?_) (fun K hK => ?_)
          · go_wp2_with (go_at_call 16; refine (hr10 k6 hk6 _ HG.out.gb.bel).mono ?_; rintro e6 W6 ⟨rfl, hb6⟩)
            have HG : Hid _ := HG.out.step hb6
            have HP : Hid _ := HP.out.step hb6
            clear hb6
            refine hK _ _ (fun _ => HG.out.gb.cell) ?_
            clear hK K
            iterate 4
              refine wpSchA_read rfl rfl ?_
              apply Exists.intro
              refine ⟨fun W hW => ?_, ?_⟩
              · have c0 := hW
                go_simp
                with_reducible rfl
              
              simp only [Act.put, List.setIfInBounds_toArray, List.set_cons_zero, List.set_cons_succ]
            refine wpSchA_last rfl rfl (fun K hK => ?_)
            go_wp2_with fail
            have HG0 : Hid _ := HG
            have HP0 : Hid _ := HP
            have HQ : Hid (Gq1 g w W6.heap.size #[.bool false, .int .i64 0] _) := Gq1.new HG.out.gb #[.bool false, .int .i64 0]
            have HL : Hid _ := And.intro (Nat.ne_of_lt HG.out.bx.lt) (Nat.ne_of_lt HP.out.bx.lt)
            have HG : Hid _ := HG.out.alloc (.cells #[.bool false, .int .i64 0] 29)
            have HP : Hid _ := HP.out.alloc (.cells #[.bool false, .int .i64 0] 29)
            refine hK _ _ (fun _ => HG.out.gb.cell) ?_
            clear hK K
            refine wpSch_list rfl rfl (fun K hK => ?_)
            go_wp2_with (refine wpList_store_box rfl 29 _ _ rfl _ _ rfl rfl _ HQ.out.bx Try.info29 rfl (by simp [Value.oneCell']) ?_; intro w8 hx8 hg8)
            first
              | (have HQ2 : Hid _ := HQ.out.put hx8 hg8; have HG : Hid _ := HG.out.other HQ2.out HL.out.1 hg8; have HP : Hid _ := HP.out.other HQ2.out HL.out.2 hg8; clear hx8 hg8
                 refine hK _ _ (fun _ => HG.out.gb.cell) ?_)
              | (have HG : Hid _ := HG0.out.alloc (.cells #[.bool false, .int .i64 0] 29); have HP : Hid _ := HP0.out.alloc (.cells #[.bool false, .int .i64 0] 29)
                 refine hK _ _ (fun _ => HG.out.gb.cell) ?_)
            clear hK K
            iterate 2
              refine wpSch_read rfl rfl ?_
              apply Exists.intro
              refine ⟨fun W hW => ?_, ?_⟩
              · have c0 := hW
                go_simp
                with_reducible rfl
              show wpSch _ _ _ _ _ _ (Act.put _ (some _) _) _
              simp only [Act.put, List.setIfInBounds_toArray, List.set_cons_zero, List.set_cons_succ]
            unfold wpSch
            go_wp2_with fail
            go_meet
            case rel => exact ⟨rfl, HG, HP⟩
          · go_wp2_with fail
            have HG0 : Hid _ := HG
            have HP0 : Hid _ := HP
            have HQ : Hid (Gq1 g w wc.heap.size #[.bool false, .int .i64 0] _) := Gq1.new HG.out.gb #[.bool false, .int .i64 0]
            have HL : Hid _ := And.intro (Nat.ne_of_lt HG.out.bx.lt) (Nat.ne_of_lt HP.out.bx.lt)
            have HG : Hid _ := HG.out.alloc (.cells #[.bool false, .int .i64 0] 29)
            have HP : Hid _ := HP.out.alloc (.cells #[.bool false, .int .i64 0] 29)
            refine hK _ _ (fun _ => HG.out.gb.cell) ?_
            clear hK K
            simp only [List.cons_append, List.nil_append]
            refine wpSch_list rfl rfl (fun K hK => ?_)
            go_wp2_with (go_at_call 16; refine (hr10 k6 hk6 _ HG.out.gb.bel).mono ?_; rintro e6 W6 ⟨rfl, hb6⟩)
            have HG : Hid _ := HG.out.step hb6
            have HP : Hid _ := HP.out.step hb6
            have HQ : Hid _ := HQ.out.step hb6
            clear hb6
            refine hK _ _ (fun _ => HG.out.gb.cell) ?_
            clear hK K
            iterate 4
              refine wpSch_read rfl rfl ?_
              apply Exists.intro
              refine ⟨fun W hW => ?_, ?_⟩
              · have c0 := hW
                go_simp
                with_reducible rfl
              show wpSch _ _ _ _ _ _ (Act.put _ (some _) _) _
              simp only [Act.put, List.setIfInBounds_toArray, List.set_cons_zero, List.set_cons_succ]
            refine wpSch_list rfl rfl (fun K hK => ?_)
            go_wp2_with (refine wpList_store_box rfl 29 _ _ rfl _ _ rfl rfl _ HQ.out.bx Try.info29 rfl (by simp [Value.oneCell']) ?_; intro w8 hx8 hg8)
            first
              | (have HQ2 : Hid _ := HQ.out.put hx8 hg8; have HG : Hid _ := HG.out.other HQ2.out HL.out.1 hg8; have HP : Hid _ := HP.out.other HQ2.out HL.out.2 hg8; clear hx8 hg8
                 refine hK _ _ (fun _ => HG.out.gb.cell) ?_)
              | (have HG : Hid _ := HG0.out.alloc (.cells #[.bool false, .int .i64 0] 29); have HP : Hid _ := HP0.out.alloc (.cells #[.bool false, .int .i64 0] 29)
                 refine hK _ _ (fun _ => HG.out.gb.cell) ?_)
            clear hK K
            iterate 2
              refine wpSch_read rfl rfl ?_
              apply Exists.intro
              refine ⟨fun W hW => ?_, ?_⟩
              · have c0 := hW
                go_simp
                with_reducible rfl
              show wpSch _ _ _ _ _ _ (Act.put _ (some _) _) _
              simp only [Act.put, List.setIfInBounds_toArray, List.set_cons_zero, List.set_cons_succ]
            unfold wpSch
            go_wp2_with fail
            go_meet
            case rel => exact ⟨rfl, HG, HP⟩
        · go_wp2_with fail
          have HG0 : Hid _ := HG
          have HP0 : Hid _ := HP
          have HQ : Hid (Gq1 g w wc.heap.size #[.bool false, .int .i64 0] _) := Gq1.new HG.out.gb #[.bool false, .int .i64 0]
          have HL : Hid _ := And.intro (Nat.ne_of_lt HG.out.bx.lt) (Nat.ne_of_lt HP.out.bx.lt)
          have HG : Hid _ := HG.out.alloc (.cells #[.bool false, .int .i64 0] 29)
          have HP : Hid _ := HP.out.alloc (.cells #[.bool false, .int .i64 0] 29)
          refine hK _ _ (fun _ => HG.out.gb.cell) ?_
          clear hK K
          simp only [List.cons_append, List.nil_append]
          refine wpSch_list rfl rfl (fun K hK => ?_)
          go_wp2_with (go_at_call 33; refine (hwj _).mono ?_; rintro e5 W5 ⟨k6, hk6, rfl, rfl⟩)
          refine hK _ _ (fun _ => HG.out.gb.cell) ?_
          clear hK K
          refine wpSch_list rfl rfl (fun K hK => ?_)
          go_wp2_with (go_at_call 16; refine (hr10 k6 hk6 _ HG.out.gb.bel).mono ?_; rintro e6 W6 ⟨rfl, hb6⟩)
          have HG : Hid _ := HG.out.step hb6
          have HP : Hid _ := HP.out.step hb6
          have HQ : Hid _ := HQ.out.step hb6
          clear hb6
          refine hK _ _ (fun _ => HG.out.gb.cell) ?_
          clear hK K
          iterate 4
            refine wpSch_read rfl rfl ?_
            apply Exists.intro
            refine ⟨fun W hW => ?_, ?_⟩
            · have c0 := hW
              go_simp
              with_reducible rfl
            show wpSch _ _ _ _ _ _ (Act.put _ (some _) _) _
            simp only [Act.put, List.setIfInBounds_toArray, List.set_cons_zero, List.set_cons_succ]
          refine wpSch_list rfl rfl (fun K hK => ?_)
          go_wp2_with (refine wpList_store_box rfl 29 _ _ rfl _ _ rfl rfl _ HQ.out.bx Try.info29 rfl (by simp [Value.oneCell']) ?_; intro w8 hx8 hg8)
          first
            | (have HQ2 : Hid _ := HQ.out.put hx8 hg8; have HG : Hid _ := HG.out.other HQ2.out HL.out.1 hg8; have HP : Hid _ := HP.out.other HQ2.out HL.out.2 hg8; clear hx8 hg8
               refine hK _ _ (fun _ => HG.out.gb.cell) ?_)
            | (have HG : Hid _ := HG0.out.alloc (.cells #[.bool false, .int .i64 0] 29); have HP : Hid _ := HP0.out.alloc (.cells #[.bool false, .int .i64 0] 29)
               refine hK _ _ (fun _ => HG.out.gb.cell) ?_)
          clear hK K
          iterate 2
            refine wpSch_read rfl rfl ?_
            apply Exists.intro
            refine ⟨fun W hW => ?_, ?_⟩
            · have c0 := hW
              go_simp
              with_reducible rfl
            show wpSch _ _ _ _ _ _ (Act.put _ (some _) _) _
            simp only [Act.put, List.setIfInBounds_toArray, List.set_cons_zero, List.set_cons_succ]
          unfold wpSch
          go_wp2_with fail
          go_meet
          case rel => exact ⟨rfl, HG, HP⟩
      case rest =>
        obtain ⟨rfl, HG, HP⟩ := hcut
        have e4 := HG.out.bx.cell 0
        have e5 := HG.out.bx.cell 1
        have e6 := HP.out.bx.cell 0
        have e7 := HP.out.bx.cell 1
        simp only [List.getElem?_toArray, List.getElem?_cons_zero, List.getElem?_cons_succ] at e4 e5 e6 e7
        go_wp2_with fail
        go_ret
        exact ⟨rfl, HG.out.gb.bel⟩
end Go.Proofs.Ytokdaapmejccbaa
