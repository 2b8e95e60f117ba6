import Derived.Test.YtbeohmcmphebhaaDoorXApp
namespace Go.Proofs.YtbeohmcmphebhaaDoor
open Go.RowKit
set_option linter.unusedVariables false
/-- What appendExpr does with an expression. -/
def ExC (x : Ex) : Prop := ∀ (w : World) (v : Value) (l : List UInt8) (base : Nat), x.In base w → Holds w base v l → base ≤ w.heap.size → l.length + 3000 * x.size ≤ 1000000 →
  Calls Tryd.prog 20 #[v, x.val] w fun r w' => ∃ v', r = .returned v' ∧ App base w v w' v' (l ++ x.pr)
/-- What appendKid does with one. -/
def KdC (x : Ex) : Prop := ∀ (least : Int) (w : World) (v : Value) (l : List UInt8) (base : Nat), x.In base w → Holds w base v l → base ≤ w.heap.size → l.length + 3000 * x.size + 1 ≤ 1000000 →
  Calls Tryd.prog 43 #[v, x.val, .int .i64 least] w fun r w' => ∃ v', r = .returned v' ∧ App base w v w' v' (l ++ brk least x.k x.pr)
set_option maxRecDepth 20000 in
set_option maxHeartbeats 4000000 in
theorem kid_tight (x : Ex) (hx : ExC x) (least : Int) (w : World) (v : Value) (l : List UInt8) (base : Nat) (hin : x.In base w) (hH : Holds w base v l) (hbase : base ≤ w.heap.size) (hl : l.length + 3000 * x.size + 1 ≤ 1000000) (ht : least ≤ tight x.k) :
    Calls Tryd.prog 43 #[v, x.val, .int .i64 least] w fun r w' => ∃ v', r = .returned v' ∧ App base w v w' v' (l ++ x.pr) := by
  have hB := (Below.refl w.heap.size w).alloc (Nat.le_refl _) (.cells x.cells 27)
  have hx1 := hx (w.alloc (.cells x.cells 27)) v l base (hin.below (hB.mono hbase)) (hH.below hB) (by simp; omega) (by omega)
  have HB : Hid _ := hB
  rw [val_eq] at hx1 ⊢
  rw [cells_eq] at hx1
  have g : decide (least ≤ tight x.k) = true := by simpa using ht
  have htt := tight_any x.k
  generalize tight x.k = tk at *
  clear hB ht
  go_enter Tryd.func43, Tryd.ntmps43
  go_wp2_with (first
    | (go_at_call 68; refine (htt _).mono ?_; rintro r w1 ⟨rfl, rfl⟩)
    | (go_at_call 20; refine hx1.mono ?_; rintro r w2 ⟨v2, rfl, hA⟩; rw [← cells_eq] at hA))
  go_ret
  exact ⟨_, rfl, App.after HB.out hA⟩
set_option maxRecDepth 20000 in
set_option maxHeartbeats 4000000 in
theorem kid_brk (x : Ex) (hx : ExC x) (hok : x.okA = true) (least : Int) (w : World) (v : Value) (l : List UInt8) (base : Nat) (hin : x.In base w) (hH : Holds w base v l) (hbase : base ≤ w.heap.size) (hl : l.length + 3000 * x.size + 1 ≤ 1000000) (ht : ¬ least ≤ tight x.k) :
    Calls Tryd.prog 43 #[v, x.val, .int .i64 least] w fun r w' => ∃ v', r = .returned v' ∧ App base w v w' v' (l ++ ([40] ++ x.pr ++ [41])) := by
  have hpl := pr_len x hok
  have g : decide (least ≤ tight x.k) = false := by simpa using ht
  have htt := tight_any x.k
  generalize tight x.k = tk at *
  unfold ExC at hx
  rw [val_eq] at hx ⊢
  clear ht
  go_enter Tryd.func43, Tryd.ntmps43
  go_wp2_with (go_at_call 68; refine (htt _).mono ?_; rintro r w1 ⟨rfl, rfl⟩)
  refine wp_region_any (by kernel_rfl) ?_
  change wpAny _ _ _ _ _ _ _ (World.drew _)
  have hA0 : App base w v (w.alloc (.cells x.cells 27)).drew v l := (App.refl hH).then ((Below.refl _ w).alloc (Nat.le_refl _) _).drew
  have hX0 : BoxN (w.alloc (.cells x.cells 27)).drew w.heap.size 27 x.cells := BoxN.new w 27 x.cells
  rw [← cells_eq]
  generalize (w.alloc (.cells x.cells 27)).drew = W0 at *
  refine wpAny_take (i := 0) (v := v) rfl (by kernel_rfl) (by kernel_rfl) (by kernel_rfl) (fun _ _ _ h => h) (Or.inl ⟨by rfl, ?_⟩) ?_
  · intro w; go_simp
  refine wpAny_ready (rs := [1, 3, 5]) (by kernel_rfl) (by simp) (AllReady.cons rfl (fun K hK => ?_) (AllReady.cons rfl (fun K hK => ?_) (AllReady.cons rfl (fun K hK => ?_) AllReady.nil)))
  · go_simp
    refine hK _ _ ?_
    clear hK K
    have hA1 := hA0.then ((Below.refl _ W0).alloc (Nat.le_refl _) (.cells #[.int .u8 40] 5))
    have hX1 := hX0.alloc (.cells #[.int .u8 40] 5)
    have hP1 := BoxN.new W0 5 #[.int .u8 40]
    have nhP1 := hA0.own.ne (Nat.le_refl W0.heap.size)
    refine wpAny_ready (rs := [2, 3, 5]) (by kernel_rfl) (by simp) (AllReady.cons rfl (fun K hK => ?_) (AllReady.cons rfl (fun K hK => ?_) (AllReady.cons rfl (fun K hK => ?_) AllReady.nil)))
    · refine step_app_byte rfl _ _ rfl rfl hA1.own (Nat.le_trans hbase hA1.grown.size) _ 40 hP1 (by first | rfl | (rw [World.size_alloc]; rfl)) (by first | omega | (simp only [List.length_append, List.length_cons, List.length_nil]; omega)) ?_
      intro v2 W2 hApp2
      refine hK _ _ ?_
      clear hK K
      have hX3 := hApp2.box hA1.own (by decide) hX1
      have hA3 := hA1.trans hApp2
      refine wpAny_ready (rs := [3, 5]) (by kernel_rfl) (by simp) (AllReady.cons rfl (fun K hK => ?_) (AllReady.cons rfl (fun K hK => ?_) AllReady.nil))
      · have cX4 := hX3.cell
        rw [cells_eq] at cX4
        go_simp
        refine hK _ _ ?_
        clear hK K
        clear cX4
        refine wpAny_ready (rs := [4, 5]) (by kernel_rfl) (by simp) (AllReady.cons rfl (fun K hK => ?_) (AllReady.cons rfl (fun K hK => ?_) AllReady.nil))
        · go_simp
          go_wp2_with (go_at_call 20; refine (hx _ _ _ base (hin.below (hA3.low hH hbase)) hA3.own (Nat.le_trans hbase hA3.grown.size) (by simp only [List.length_append, List.length_cons, List.length_nil]; omega)).mono ?_; rintro r W5 ⟨v5, rfl, hApp5⟩)
          have hX6 := hApp5.box hA3.own (by decide) hX3
          have hA6 := hA3.trans hApp5
          refine wpAny_ready (rs := [5]) (by kernel_rfl) (by simp) (AllReady.cons rfl (fun K hK => ?_) AllReady.nil)
          go_simp
          refine hK _ _ ?_
          clear hK K
          have hA7 := hA6.then ((Below.refl _ W5).alloc (Nat.le_refl _) (.cells #[.int .u8 41] 5))
          have hX7 := hX6.alloc (.cells #[.int .u8 41] 5)
          have hQ7 := BoxN.new W5 5 #[.int .u8 41]
          have nhQ7 := hA6.own.ne (Nat.le_refl W5.heap.size)
          refine wpAny_ready (rs := [6]) (by kernel_rfl) (by simp) (AllReady.cons rfl (fun K hK => ?_) AllReady.nil)
          refine step_app_byte rfl _ _ rfl rfl hA7.own (Nat.le_trans hbase hA7.grown.size) _ 41 hQ7 (by first | rfl | (rw [World.size_alloc]; rfl)) (by first | omega | (simp only [List.length_append, List.length_cons, List.length_nil]; omega)) ?_
          intro v8 W8 hApp8
          refine hK _ _ ?_
          clear hK K
          have hX9 := hApp8.box hA7.own (by decide) hX7
          have hA9 := hA7.trans hApp8
          refine wpAny_ready (rs := [7]) (by kernel_rfl) (by simp) (AllReady.cons rfl (fun K hK => ?_) AllReady.nil)
          go_simp
          refine hK _ _ ?_
          clear hK K
          refine wpAny_done (by kernel_rfl) ?_ _
          have hf := hA9
          rw [List.append_assoc, List.append_assoc] at hf
          go_wp2_with fail
          go_ret
          exact ⟨_, rfl, hf⟩
        · go_simp
          refine hK _ _ ?_
          clear hK K
          have hA10 := hA3.then ((Below.refl _ W2).alloc (Nat.le_refl _) (.cells #[.int .u8 41] 5))
          have hX10 := hX3.alloc (.cells #[.int .u8 41] 5)
          have hQ10 := BoxN.new W2 5 #[.int .u8 41]
          have nhQ10 := hA3.own.ne (Nat.le_refl W2.heap.size)
          refine wpAny_ready (rs := [4]) (by kernel_rfl) (by simp) (AllReady.cons rfl (fun K hK => ?_) AllReady.nil)
          go_simp
          go_wp2_with (go_at_call 20; refine (hx _ _ _ base (hin.below (hA10.low hH hbase)) hA10.own (Nat.le_trans hbase hA10.grown.size) (by simp only [List.length_append, List.length_cons, List.length_nil]; omega)).mono ?_; rintro r W11 ⟨v11, rfl, hApp11⟩)
          have hX12 := hApp11.box hA10.own (by decide) hX10
          have hQ12 := hApp11.other hQ10 nhQ10
          have nhQ12 : some _ ≠ v11.ownBlock := fun e => nhQ10 (hApp11.lies _ e.symm hQ10.lt).symm
          have hA12 := hA10.trans hApp11
          refine wpAny_ready (rs := [6]) (by kernel_rfl) (by simp) (AllReady.cons rfl (fun K hK => ?_) AllReady.nil)
          refine step_app_byte rfl _ _ rfl rfl hA12.own (Nat.le_trans hbase hA12.grown.size) _ 41 hQ12 (by first | rfl | (rw [World.size_alloc]; rfl)) (by first | omega | (simp only [List.length_append, List.length_cons, List.length_nil]; omega)) ?_
          intro v13 W13 hApp13
          refine hK _ _ ?_
          clear hK K
          have hX14 := hApp13.box hA12.own (by decide) hX12
          have hA14 := hA12.trans hApp13
          refine wpAny_ready (rs := [7]) (by kernel_rfl) (by simp) (AllReady.cons rfl (fun K hK => ?_) AllReady.nil)
          go_simp
          refine hK _ _ ?_
          clear hK K
          refine wpAny_done (by kernel_rfl) ?_ _
          have hf := hA14
          rw [List.append_assoc, List.append_assoc] at hf
          go_wp2_with fail
          go_ret
          exact ⟨_, rfl, hf⟩
      · go_simp
        refine hK _ _ ?_
        clear hK K
        have hA15 := hA3.then ((Below.refl _ W2).alloc (Nat.le_refl _) (.cells #[.int .u8 41] 5))
        have hX15 := hX3.alloc (.cells #[.int .u8 41] 5)
        have hQ15 := BoxN.new W2 5 #[.int .u8 41]
        have nhQ15 := hA3.own.ne (Nat.le_refl W2.heap.size)
        refine wpAny_ready (rs := [3]) (by kernel_rfl) (by simp) (AllReady.cons rfl (fun K hK => ?_) AllReady.nil)
        have cX16 := hX15.cell
        rw [cells_eq] at cX16
        go_simp
        refine hK _ _ ?_
        clear hK K
        clear cX16
        refine wpAny_ready (rs := [4]) (by kernel_rfl) (by simp) (AllReady.cons rfl (fun K hK => ?_) AllReady.nil)
        go_simp
        go_wp2_with (go_at_call 20; refine (hx _ _ _ base (hin.below (hA15.low hH hbase)) hA15.own (Nat.le_trans hbase hA15.grown.size) (by simp only [List.length_append, List.length_cons, List.length_nil]; omega)).mono ?_; rintro r W17 ⟨v17, rfl, hApp17⟩)
        have hX18 := hApp17.box hA15.own (by decide) hX15
        have hQ18 := hApp17.other hQ15 nhQ15
        have nhQ18 : some _ ≠ v17.ownBlock := fun e => nhQ15 (hApp17.lies _ e.symm hQ15.lt).symm
        have hA18 := hA15.trans hApp17
        refine wpAny_ready (rs := [6]) (by kernel_rfl) (by simp) (AllReady.cons rfl (fun K hK => ?_) AllReady.nil)
        refine step_app_byte rfl _ _ rfl rfl hA18.own (Nat.le_trans hbase hA18.grown.size) _ 41 hQ18 (by first | rfl | (rw [World.size_alloc]; rfl)) (by first | omega | (simp only [List.length_append, List.length_cons, List.length_nil]; omega)) ?_
        intro v19 W19 hApp19
        refine hK _ _ ?_
        clear hK K
        have hX20 := hApp19.box hA18.own (by decide) hX18
        have hA20 := hA18.trans hApp19
        refine wpAny_ready (rs := [7]) (by kernel_rfl) (by simp) (AllReady.cons rfl (fun K hK => ?_) AllReady.nil)
        go_simp
        refine hK _ _ ?_
        clear hK K
        refine wpAny_done (by kernel_rfl) ?_ _
        have hf := hA20
        rw [List.append_assoc, List.append_assoc] at hf
        go_wp2_with fail
        go_ret
        exact ⟨_, rfl, hf⟩
    · have cX21 := hX1.cell
      rw [cells_eq] at cX21
      go_simp
      refine hK _ _ ?_
      clear hK K
      clear cX21
      refine wpAny_ready (rs := [2, 5]) (by kernel_rfl) (by simp) (AllReady.cons rfl (fun K hK => ?_) (AllReady.cons rfl (fun K hK => ?_) AllReady.nil))
      · refine step_app_byte rfl _ _ rfl rfl hA1.own (Nat.le_trans hbase hA1.grown.size) _ 40 hP1 (by first | rfl | (rw [World.size_alloc]; rfl)) (by first | omega | (simp only [List.length_append, List.length_cons, List.length_nil]; omega)) ?_
        intro v22 W22 hApp22
        refine hK _ _ ?_
        clear hK K
        have hX23 := hApp22.box hA1.own (by decide) hX1
        have hA23 := hA1.trans hApp22
        refine wpAny_ready (rs := [4, 5]) (by kernel_rfl) (by simp) (AllReady.cons rfl (fun K hK => ?_) (AllReady.cons rfl (fun K hK => ?_) AllReady.nil))
        · go_simp
          go_wp2_with (go_at_call 20; refine (hx _ _ _ base (hin.below (hA23.low hH hbase)) hA23.own (Nat.le_trans hbase hA23.grown.size) (by simp only [List.length_append, List.length_cons, List.length_nil]; omega)).mono ?_; rintro r W24 ⟨v24, rfl, hApp24⟩)
          have hX25 := hApp24.box hA23.own (by decide) hX23
          have hA25 := hA23.trans hApp24
          refine wpAny_ready (rs := [5]) (by kernel_rfl) (by simp) (AllReady.cons rfl (fun K hK => ?_) AllReady.nil)
          go_simp
          refine hK _ _ ?_
          clear hK K
          have hA26 := hA25.then ((Below.refl _ W24).alloc (Nat.le_refl _) (.cells #[.int .u8 41] 5))
          have hX26 := hX25.alloc (.cells #[.int .u8 41] 5)
          have hQ26 := BoxN.new W24 5 #[.int .u8 41]
          have nhQ26 := hA25.own.ne (Nat.le_refl W24.heap.size)
          refine wpAny_ready (rs := [6]) (by kernel_rfl) (by simp) (AllReady.cons rfl (fun K hK => ?_) AllReady.nil)
          refine step_app_byte rfl _ _ rfl rfl hA26.own (Nat.le_trans hbase hA26.grown.size) _ 41 hQ26 (by first | rfl | (rw [World.size_alloc]; rfl)) (by first | omega | (simp only [List.length_append, List.length_cons, List.length_nil]; omega)) ?_
          intro v27 W27 hApp27
          refine hK _ _ ?_
          clear hK K
          have hX28 := hApp27.box hA26.own (by decide) hX26
          have hA28 := hA26.trans hApp27
          refine wpAny_ready (rs := [7]) (by kernel_rfl) (by simp) (AllReady.cons rfl (fun K hK => ?_) AllReady.nil)
          go_simp
          refine hK _ _ ?_
          clear hK K
          refine wpAny_done (by kernel_rfl) ?_ _
          have hf := hA28
          rw [List.append_assoc, List.append_assoc] at hf
          go_wp2_with fail
          go_ret
          exact ⟨_, rfl, hf⟩
        · go_simp
          refine hK _ _ ?_
          clear hK K
          have hA29 := hA23.then ((Below.refl _ W22).alloc (Nat.le_refl _) (.cells #[.int .u8 41] 5))
          have hX29 := hX23.alloc (.cells #[.int .u8 41] 5)
          have hQ29 := BoxN.new W22 5 #[.int .u8 41]
          have nhQ29 := hA23.own.ne (Nat.le_refl W22.heap.size)
          refine wpAny_ready (rs := [4]) (by kernel_rfl) (by simp) (AllReady.cons rfl (fun K hK => ?_) AllReady.nil)
          go_simp
          go_wp2_with (go_at_call 20; refine (hx _ _ _ base (hin.below (hA29.low hH hbase)) hA29.own (Nat.le_trans hbase hA29.grown.size) (by simp only [List.length_append, List.length_cons, List.length_nil]; omega)).mono ?_; rintro r W30 ⟨v30, rfl, hApp30⟩)
          have hX31 := hApp30.box hA29.own (by decide) hX29
          have hQ31 := hApp30.other hQ29 nhQ29
          have nhQ31 : some _ ≠ v30.ownBlock := fun e => nhQ29 (hApp30.lies _ e.symm hQ29.lt).symm
          have hA31 := hA29.trans hApp30
          refine wpAny_ready (rs := [6]) (by kernel_rfl) (by simp) (AllReady.cons rfl (fun K hK => ?_) AllReady.nil)
          refine step_app_byte rfl _ _ rfl rfl hA31.own (Nat.le_trans hbase hA31.grown.size) _ 41 hQ31 (by first | rfl | (rw [World.size_alloc]; rfl)) (by first | omega | (simp only [List.length_append, List.length_cons, List.length_nil]; omega)) ?_
          intro v32 W32 hApp32
          refine hK _ _ ?_
          clear hK K
          have hX33 := hApp32.box hA31.own (by decide) hX31
          have hA33 := hA31.trans hApp32
          refine wpAny_ready (rs := [7]) (by kernel_rfl) (by simp) (AllReady.cons rfl (fun K hK => ?_) AllReady.nil)
          go_simp
          refine hK _ _ ?_
          clear hK K
          refine wpAny_done (by kernel_rfl) ?_ _
          have hf := hA33
          rw [List.append_assoc, List.append_assoc] at hf
          go_wp2_with fail
          go_ret
          exact ⟨_, rfl, hf⟩
      · go_simp
        refine hK _ _ ?_
        clear hK K
        have hA34 := hA1.then ((Below.refl _ (W0.alloc (.cells #[.int .u8 40] 5))).alloc (Nat.le_refl _) (.cells #[.int .u8 41] 5))
        have hX34 := hX1.alloc (.cells #[.int .u8 41] 5)
        have hP34 := hP1.alloc (.cells #[.int .u8 41] 5)
        have hQ34 := BoxN.new (W0.alloc (.cells #[.int .u8 40] 5)) 5 #[.int .u8 41]
        have nhQ34 := hA1.own.ne (Nat.le_refl (W0.alloc (.cells #[.int .u8 40] 5)).heap.size)
        refine wpAny_ready (rs := [2]) (by kernel_rfl) (by simp) (AllReady.cons rfl (fun K hK => ?_) AllReady.nil)
        refine step_app_byte rfl _ _ rfl rfl hA34.own (Nat.le_trans hbase hA34.grown.size) _ 40 hP34 (by first | rfl | (rw [World.size_alloc]; rfl)) (by first | omega | (simp only [List.length_append, List.length_cons, List.length_nil]; omega)) ?_
        intro v35 W35 hApp35
        refine hK _ _ ?_
        clear hK K
        have hX36 := hApp35.box hA34.own (by decide) hX34
        have hQ36 := hApp35.other hQ34 nhQ34
        have nhQ36 : some _ ≠ v35.ownBlock := fun e => nhQ34 (hApp35.lies _ e.symm hQ34.lt).symm
        have hA36 := hA34.trans hApp35
        refine wpAny_ready (rs := [4]) (by kernel_rfl) (by simp) (AllReady.cons rfl (fun K hK => ?_) AllReady.nil)
        go_simp
        go_wp2_with (go_at_call 20; refine (hx _ _ _ base (hin.below (hA36.low hH hbase)) hA36.own (Nat.le_trans hbase hA36.grown.size) (by simp only [List.length_append, List.length_cons, List.length_nil]; omega)).mono ?_; rintro r W37 ⟨v37, rfl, hApp37⟩)
        have hX38 := hApp37.box hA36.own (by decide) hX36
        have hQ38 := hApp37.other hQ36 nhQ36
        have nhQ38 : some _ ≠ v37.ownBlock := fun e => nhQ36 (hApp37.lies _ e.symm hQ36.lt).symm
        have hA38 := hA36.trans hApp37
        refine wpAny_ready (rs := [6]) (by kernel_rfl) (by simp) (AllReady.cons rfl (fun K hK => ?_) AllReady.nil)
        refine step_app_byte rfl _ _ rfl rfl hA38.own (Nat.le_trans hbase hA38.grown.size) _ 41 hQ38 (by first | rfl | (rw [World.size_alloc]; rfl)) (by first | omega | (simp only [List.length_append, List.length_cons, List.length_nil]; omega)) ?_
        intro v39 W39 hApp39
        refine hK _ _ ?_
        clear hK K
        have hX40 := hApp39.box hA38.own (by decide) hX38
        have hA40 := hA38.trans hApp39
        refine wpAny_ready (rs := [7]) (by kernel_rfl) (by simp) (AllReady.cons rfl (fun K hK => ?_) AllReady.nil)
        go_simp
        refine hK _ _ ?_
        clear hK K
        refine wpAny_done (by kernel_rfl) ?_ _
        have hf := hA40
        rw [List.append_assoc, List.append_assoc] at hf
        go_wp2_with fail
        go_ret
        exact ⟨_, rfl, hf⟩
    · go_simp
      refine hK _ _ ?_
      clear hK K
      have hA41 := hA1.then ((Below.refl _ (W0.alloc (.cells #[.int .u8 40] 5))).alloc (Nat.le_refl _) (.cells #[.int .u8 41] 5))
      have hX41 := hX1.alloc (.cells #[.int .u8 41] 5)
      have hP41 := hP1.alloc (.cells #[.int .u8 41] 5)
      have hQ41 := BoxN.new (W0.alloc (.cells #[.int .u8 40] 5)) 5 #[.int .u8 41]
      have nhQ41 := hA1.own.ne (Nat.le_refl (W0.alloc (.cells #[.int .u8 40] 5)).heap.size)
      refine wpAny_ready (rs := [2, 3]) (by kernel_rfl) (by simp) (AllReady.cons rfl (fun K hK => ?_) (AllReady.cons rfl (fun K hK => ?_) AllReady.nil))
      · refine step_app_byte rfl _ _ rfl rfl hA41.own (Nat.le_trans hbase hA41.grown.size) _ 40 hP41 (by first | rfl | (rw [World.size_alloc]; rfl)) (by first | omega | (simp only [List.length_append, List.length_cons, List.length_nil]; omega)) ?_
        intro v42 W42 hApp42
        refine hK _ _ ?_
        clear hK K
        have hX43 := hApp42.box hA41.own (by decide) hX41
        have hQ43 := hApp42.other hQ41 nhQ41
        have nhQ43 : some _ ≠ v42.ownBlock := fun e => nhQ41 (hApp42.lies _ e.symm hQ41.lt).symm
        have hA43 := hA41.trans hApp42
        refine wpAny_ready (rs := [3]) (by kernel_rfl) (by simp) (AllReady.cons rfl (fun K hK => ?_) AllReady.nil)
        have cX44 := hX43.cell
        rw [cells_eq] at cX44
        go_simp
        refine hK _ _ ?_
        clear hK K
        clear cX44
        refine wpAny_ready (rs := [4]) (by kernel_rfl) (by simp) (AllReady.cons rfl (fun K hK => ?_) AllReady.nil)
        go_simp
        go_wp2_with (go_at_call 20; refine (hx _ _ _ base (hin.below (hA43.low hH hbase)) hA43.own (Nat.le_trans hbase hA43.grown.size) (by simp only [List.length_append, List.length_cons, List.length_nil]; omega)).mono ?_; rintro r W45 ⟨v45, rfl, hApp45⟩)
        have hX46 := hApp45.box hA43.own (by decide) hX43
        have hQ46 := hApp45.other hQ43 nhQ43
        have nhQ46 : some _ ≠ v45.ownBlock := fun e => nhQ43 (hApp45.lies _ e.symm hQ43.lt).symm
        have hA46 := hA43.trans hApp45
        refine wpAny_ready (rs := [6]) (by kernel_rfl) (by simp) (AllReady.cons rfl (fun K hK => ?_) AllReady.nil)
        refine step_app_byte rfl _ _ rfl rfl hA46.own (Nat.le_trans hbase hA46.grown.size) _ 41 hQ46 (by first | rfl | (rw [World.size_alloc]; rfl)) (by first | omega | (simp only [List.length_append, List.length_cons, List.length_nil]; omega)) ?_
        intro v47 W47 hApp47
        refine hK _ _ ?_
        clear hK K
        have hX48 := hApp47.box hA46.own (by decide) hX46
        have hA48 := hA46.trans hApp47
        refine wpAny_ready (rs := [7]) (by kernel_rfl) (by simp) (AllReady.cons rfl (fun K hK => ?_) AllReady.nil)
        go_simp
        refine hK _ _ ?_
        clear hK K
        refine wpAny_done (by kernel_rfl) ?_ _
        have hf := hA48
        rw [List.append_assoc, List.append_assoc] at hf
        go_wp2_with fail
        go_ret
        exact ⟨_, rfl, hf⟩
      · have cX49 := hX41.cell
        rw [cells_eq] at cX49
        go_simp
        refine hK _ _ ?_
        clear hK K
        clear cX49
        refine wpAny_ready (rs := [2]) (by kernel_rfl) (by simp) (AllReady.cons rfl (fun K hK => ?_) AllReady.nil)
        refine step_app_byte rfl _ _ rfl rfl hA41.own (Nat.le_trans hbase hA41.grown.size) _ 40 hP41 (by first | rfl | (rw [World.size_alloc]; rfl)) (by first | omega | (simp only [List.length_append, List.length_cons, List.length_nil]; omega)) ?_
        intro v50 W50 hApp50
        refine hK _ _ ?_
        clear hK K
        have hX51 := hApp50.box hA41.own (by decide) hX41
        have hQ51 := hApp50.other hQ41 nhQ41
        have nhQ51 : some _ ≠ v50.ownBlock := fun e => nhQ41 (hApp50.lies _ e.symm hQ41.lt).symm
        have hA51 := hA41.trans hApp50
        refine wpAny_ready (rs := [4]) (by kernel_rfl) (by simp) (AllReady.cons rfl (fun K hK => ?_) AllReady.nil)
        go_simp
        go_wp2_with (go_at_call 20; refine (hx _ _ _ base (hin.below (hA51.low hH hbase)) hA51.own (Nat.le_trans hbase hA51.grown.size) (by simp only [List.length_append, List.length_cons, List.length_nil]; omega)).mono ?_; rintro r W52 ⟨v52, rfl, hApp52⟩)
        have hX53 := hApp52.box hA51.own (by decide) hX51
        have hQ53 := hApp52.other hQ51 nhQ51
        have nhQ53 : some _ ≠ v52.ownBlock := fun e => nhQ51 (hApp52.lies _ e.symm hQ51.lt).symm
        have hA53 := hA51.trans hApp52
        refine wpAny_ready (rs := [6]) (by kernel_rfl) (by simp) (AllReady.cons rfl (fun K hK => ?_) AllReady.nil)
        refine step_app_byte rfl _ _ rfl rfl hA53.own (Nat.le_trans hbase hA53.grown.size) _ 41 hQ53 (by first | rfl | (rw [World.size_alloc]; rfl)) (by first | omega | (simp only [List.length_append, List.length_cons, List.length_nil]; omega)) ?_
        intro v54 W54 hApp54
        refine hK _ _ ?_
        clear hK K
        have hX55 := hApp54.box hA53.own (by decide) hX53
        have hA55 := hA53.trans hApp54
        refine wpAny_ready (rs := [7]) (by kernel_rfl) (by simp) (AllReady.cons rfl (fun K hK => ?_) AllReady.nil)
        go_simp
        refine hK _ _ ?_
        clear hK K
        refine wpAny_done (by kernel_rfl) ?_ _
        have hf := hA55
        rw [List.append_assoc, List.append_assoc] at hf
        go_wp2_with fail
        go_ret
        exact ⟨_, rfl, hf⟩
  · have cX56 := hX0.cell
    rw [cells_eq] at cX56
    go_simp
    refine hK _ _ ?_
    clear hK K
    clear cX56
    refine wpAny_ready (rs := [1, 5]) (by kernel_rfl) (by simp) (AllReady.cons rfl (fun K hK => ?_) (AllReady.cons rfl (fun K hK => ?_) AllReady.nil))
    · go_simp
      refine hK _ _ ?_
      clear hK K
      have hA57 := hA0.then ((Below.refl _ W0).alloc (Nat.le_refl _) (.cells #[.int .u8 40] 5))
      have hX57 := hX0.alloc (.cells #[.int .u8 40] 5)
      have hP57 := BoxN.new W0 5 #[.int .u8 40]
      have nhP57 := hA0.own.ne (Nat.le_refl W0.heap.size)
      refine wpAny_ready (rs := [2, 5]) (by kernel_rfl) (by simp) (AllReady.cons rfl (fun K hK => ?_) (AllReady.cons rfl (fun K hK => ?_) AllReady.nil))
      · refine step_app_byte rfl _ _ rfl rfl hA57.own (Nat.le_trans hbase hA57.grown.size) _ 40 hP57 (by first | rfl | (rw [World.size_alloc]; rfl)) (by first | omega | (simp only [List.length_append, List.length_cons, List.length_nil]; omega)) ?_
        intro v58 W58 hApp58
        refine hK _ _ ?_
        clear hK K
        have hX59 := hApp58.box hA57.own (by decide) hX57
        have hA59 := hA57.trans hApp58
        refine wpAny_ready (rs := [4, 5]) (by kernel_rfl) (by simp) (AllReady.cons rfl (fun K hK => ?_) (AllReady.cons rfl (fun K hK => ?_) AllReady.nil))
        · go_simp
          go_wp2_with (go_at_call 20; refine (hx _ _ _ base (hin.below (hA59.low hH hbase)) hA59.own (Nat.le_trans hbase hA59.grown.size) (by simp only [List.length_append, List.length_cons, List.length_nil]; omega)).mono ?_; rintro r W60 ⟨v60, rfl, hApp60⟩)
          have hX61 := hApp60.box hA59.own (by decide) hX59
          have hA61 := hA59.trans hApp60
          refine wpAny_ready (rs := [5]) (by kernel_rfl) (by simp) (AllReady.cons rfl (fun K hK => ?_) AllReady.nil)
          go_simp
          refine hK _ _ ?_
          clear hK K
          have hA62 := hA61.then ((Below.refl _ W60).alloc (Nat.le_refl _) (.cells #[.int .u8 41] 5))
          have hX62 := hX61.alloc (.cells #[.int .u8 41] 5)
          have hQ62 := BoxN.new W60 5 #[.int .u8 41]
          have nhQ62 := hA61.own.ne (Nat.le_refl W60.heap.size)
          refine wpAny_ready (rs := [6]) (by kernel_rfl) (by simp) (AllReady.cons rfl (fun K hK => ?_) AllReady.nil)
          refine step_app_byte rfl _ _ rfl rfl hA62.own (Nat.le_trans hbase hA62.grown.size) _ 41 hQ62 (by first | rfl | (rw [World.size_alloc]; rfl)) (by first | omega | (simp only [List.length_append, List.length_cons, List.length_nil]; omega)) ?_
          intro v63 W63 hApp63
          refine hK _ _ ?_
          clear hK K
          have hX64 := hApp63.box hA62.own (by decide) hX62
          have hA64 := hA62.trans hApp63
          refine wpAny_ready (rs := [7]) (by kernel_rfl) (by simp) (AllReady.cons rfl (fun K hK => ?_) AllReady.nil)
          go_simp
          refine hK _ _ ?_
          clear hK K
          refine wpAny_done (by kernel_rfl) ?_ _
          have hf := hA64
          rw [List.append_assoc, List.append_assoc] at hf
          go_wp2_with fail
          go_ret
          exact ⟨_, rfl, hf⟩
        · go_simp
          refine hK _ _ ?_
          clear hK K
          have hA65 := hA59.then ((Below.refl _ W58).alloc (Nat.le_refl _) (.cells #[.int .u8 41] 5))
          have hX65 := hX59.alloc (.cells #[.int .u8 41] 5)
          have hQ65 := BoxN.new W58 5 #[.int .u8 41]
          have nhQ65 := hA59.own.ne (Nat.le_refl W58.heap.size)
          refine wpAny_ready (rs := [4]) (by kernel_rfl) (by simp) (AllReady.cons rfl (fun K hK => ?_) AllReady.nil)
          go_simp
          go_wp2_with (go_at_call 20; refine (hx _ _ _ base (hin.below (hA65.low hH hbase)) hA65.own (Nat.le_trans hbase hA65.grown.size) (by simp only [List.length_append, List.length_cons, List.length_nil]; omega)).mono ?_; rintro r W66 ⟨v66, rfl, hApp66⟩)
          have hX67 := hApp66.box hA65.own (by decide) hX65
          have hQ67 := hApp66.other hQ65 nhQ65
          have nhQ67 : some _ ≠ v66.ownBlock := fun e => nhQ65 (hApp66.lies _ e.symm hQ65.lt).symm
          have hA67 := hA65.trans hApp66
          refine wpAny_ready (rs := [6]) (by kernel_rfl) (by simp) (AllReady.cons rfl (fun K hK => ?_) AllReady.nil)
          refine step_app_byte rfl _ _ rfl rfl hA67.own (Nat.le_trans hbase hA67.grown.size) _ 41 hQ67 (by first | rfl | (rw [World.size_alloc]; rfl)) (by first | omega | (simp only [List.length_append, List.length_cons, List.length_nil]; omega)) ?_
          intro v68 W68 hApp68
          refine hK _ _ ?_
          clear hK K
          have hX69 := hApp68.box hA67.own (by decide) hX67
          have hA69 := hA67.trans hApp68
          refine wpAny_ready (rs := [7]) (by kernel_rfl) (by simp) (AllReady.cons rfl (fun K hK => ?_) AllReady.nil)
          go_simp
          refine hK _ _ ?_
          clear hK K
          refine wpAny_done (by kernel_rfl) ?_ _
          have hf := hA69
          rw [List.append_assoc, List.append_assoc] at hf
          go_wp2_with fail
          go_ret
          exact ⟨_, rfl, hf⟩
      · go_simp
        refine hK _ _ ?_
        clear hK K
        have hA70 := hA57.then ((Below.refl _ (W0.alloc (.cells #[.int .u8 40] 5))).alloc (Nat.le_refl _) (.cells #[.int .u8 41] 5))
        have hX70 := hX57.alloc (.cells #[.int .u8 41] 5)
        have hP70 := hP57.alloc (.cells #[.int .u8 41] 5)
        have hQ70 := BoxN.new (W0.alloc (.cells #[.int .u8 40] 5)) 5 #[.int .u8 41]
        have nhQ70 := hA57.own.ne (Nat.le_refl (W0.alloc (.cells #[.int .u8 40] 5)).heap.size)
        refine wpAny_ready (rs := [2]) (by kernel_rfl) (by simp) (AllReady.cons rfl (fun K hK => ?_) AllReady.nil)
        refine step_app_byte rfl _ _ rfl rfl hA70.own (Nat.le_trans hbase hA70.grown.size) _ 40 hP70 (by first | rfl | (rw [World.size_alloc]; rfl)) (by first | omega | (simp only [List.length_append, List.length_cons, List.length_nil]; omega)) ?_
        intro v71 W71 hApp71
        refine hK _ _ ?_
        clear hK K
        have hX72 := hApp71.box hA70.own (by decide) hX70
        have hQ72 := hApp71.other hQ70 nhQ70
        have nhQ72 : some _ ≠ v71.ownBlock := fun e => nhQ70 (hApp71.lies _ e.symm hQ70.lt).symm
        have hA72 := hA70.trans hApp71
        refine wpAny_ready (rs := [4]) (by kernel_rfl) (by simp) (AllReady.cons rfl (fun K hK => ?_) AllReady.nil)
        go_simp
        go_wp2_with (go_at_call 20; refine (hx _ _ _ base (hin.below (hA72.low hH hbase)) hA72.own (Nat.le_trans hbase hA72.grown.size) (by simp only [List.length_append, List.length_cons, List.length_nil]; omega)).mono ?_; rintro r W73 ⟨v73, rfl, hApp73⟩)
        have hX74 := hApp73.box hA72.own (by decide) hX72
        have hQ74 := hApp73.other hQ72 nhQ72
        have nhQ74 : some _ ≠ v73.ownBlock := fun e => nhQ72 (hApp73.lies _ e.symm hQ72.lt).symm
        have hA74 := hA72.trans hApp73
        refine wpAny_ready (rs := [6]) (by kernel_rfl) (by simp) (AllReady.cons rfl (fun K hK => ?_) AllReady.nil)
        refine step_app_byte rfl _ _ rfl rfl hA74.own (Nat.le_trans hbase hA74.grown.size) _ 41 hQ74 (by first | rfl | (rw [World.size_alloc]; rfl)) (by first | omega | (simp only [List.length_append, List.length_cons, List.length_nil]; omega)) ?_
        intro v75 W75 hApp75
        refine hK _ _ ?_
        clear hK K
        have hX76 := hApp75.box hA74.own (by decide) hX74
        have hA76 := hA74.trans hApp75
        refine wpAny_ready (rs := [7]) (by kernel_rfl) (by simp) (AllReady.cons rfl (fun K hK => ?_) AllReady.nil)
        go_simp
        refine hK _ _ ?_
        clear hK K
        refine wpAny_done (by kernel_rfl) ?_ _
        have hf := hA76
        rw [List.append_assoc, List.append_assoc] at hf
        go_wp2_with fail
        go_ret
        exact ⟨_, rfl, hf⟩
    · go_simp
      refine hK _ _ ?_
      clear hK K
      have hA77 := hA0.then ((Below.refl _ W0).alloc (Nat.le_refl _) (.cells #[.int .u8 41] 5))
      have hX77 := hX0.alloc (.cells #[.int .u8 41] 5)
      have hQ77 := BoxN.new W0 5 #[.int .u8 41]
      have nhQ77 := hA0.own.ne (Nat.le_refl W0.heap.size)
      refine wpAny_ready (rs := [1]) (by kernel_rfl) (by simp) (AllReady.cons rfl (fun K hK => ?_) AllReady.nil)
      go_simp
      refine hK _ _ ?_
      clear hK K
      have hA78 := hA77.then ((Below.refl _ (W0.alloc (.cells #[.int .u8 41] 5))).alloc (Nat.le_refl _) (.cells #[.int .u8 40] 5))
      have hX78 := hX77.alloc (.cells #[.int .u8 40] 5)
      have hQ78 := hQ77.alloc (.cells #[.int .u8 40] 5)
      have hP78 := BoxN.new (W0.alloc (.cells #[.int .u8 41] 5)) 5 #[.int .u8 40]
      have nhP78 := hA77.own.ne (Nat.le_refl (W0.alloc (.cells #[.int .u8 41] 5)).heap.size)
      refine wpAny_ready (rs := [2]) (by kernel_rfl) (by simp) (AllReady.cons rfl (fun K hK => ?_) AllReady.nil)
      refine step_app_byte rfl _ _ rfl rfl hA78.own (Nat.le_trans hbase hA78.grown.size) _ 40 hP78 (by first | rfl | (rw [World.size_alloc]; rfl)) (by first | omega | (simp only [List.length_append, List.length_cons, List.length_nil]; omega)) ?_
      intro v79 W79 hApp79
      refine hK _ _ ?_
      clear hK K
      have hX80 := hApp79.box hA78.own (by decide) hX78
      have hQ80 := hApp79.other hQ78 nhQ77
      have nhQ80 : some _ ≠ v79.ownBlock := fun e => nhQ77 (hApp79.lies _ e.symm hQ78.lt).symm
      have hA80 := hA78.trans hApp79
      refine wpAny_ready (rs := [4]) (by kernel_rfl) (by simp) (AllReady.cons rfl (fun K hK => ?_) AllReady.nil)
      go_simp
      go_wp2_with (go_at_call 20; refine (hx _ _ _ base (hin.below (hA80.low hH hbase)) hA80.own (Nat.le_trans hbase hA80.grown.size) (by simp only [List.length_append, List.length_cons, List.length_nil]; omega)).mono ?_; rintro r W81 ⟨v81, rfl, hApp81⟩)
      have hX82 := hApp81.box hA80.own (by decide) hX80
      have hQ82 := hApp81.other hQ80 nhQ80
      have nhQ82 : some _ ≠ v81.ownBlock := fun e => nhQ80 (hApp81.lies _ e.symm hQ80.lt).symm
      have hA82 := hA80.trans hApp81
      refine wpAny_ready (rs := [6]) (by kernel_rfl) (by simp) (AllReady.cons rfl (fun K hK => ?_) AllReady.nil)
      refine step_app_byte rfl _ _ rfl rfl hA82.own (Nat.le_trans hbase hA82.grown.size) _ 41 hQ82 (by first | rfl | (rw [World.size_alloc]; rfl)) (by first | omega | (simp only [List.length_append, List.length_cons, List.length_nil]; omega)) ?_
      intro v83 W83 hApp83
      refine hK _ _ ?_
      clear hK K
      have hX84 := hApp83.box hA82.own (by decide) hX82
      have hA84 := hA82.trans hApp83
      refine wpAny_ready (rs := [7]) (by kernel_rfl) (by simp) (AllReady.cons rfl (fun K hK => ?_) AllReady.nil)
      go_simp
      refine hK _ _ ?_
      clear hK K
      refine wpAny_done (by kernel_rfl) ?_ _
      have hf := hA84
      rw [List.append_assoc, List.append_assoc] at hf
      go_wp2_with fail
      go_ret
      exact ⟨_, rfl, hf⟩
  · go_simp
    refine hK _ _ ?_
    clear hK K
    have hA85 := hA0.then ((Below.refl _ W0).alloc (Nat.le_refl _) (.cells #[.int .u8 41] 5))
    have hX85 := hX0.alloc (.cells #[.int .u8 41] 5)
    have hQ85 := BoxN.new W0 5 #[.int .u8 41]
    have nhQ85 := hA0.own.ne (Nat.le_refl W0.heap.size)
    refine wpAny_ready (rs := [1, 3]) (by kernel_rfl) (by simp) (AllReady.cons rfl (fun K hK => ?_) (AllReady.cons rfl (fun K hK => ?_) AllReady.nil))
    · go_simp
      refine hK _ _ ?_
      clear hK K
      have hA86 := hA85.then ((Below.refl _ (W0.alloc (.cells #[.int .u8 41] 5))).alloc (Nat.le_refl _) (.cells #[.int .u8 40] 5))
      have hX86 := hX85.alloc (.cells #[.int .u8 40] 5)
      have hQ86 := hQ85.alloc (.cells #[.int .u8 40] 5)
      have hP86 := BoxN.new (W0.alloc (.cells #[.int .u8 41] 5)) 5 #[.int .u8 40]
      have nhP86 := hA85.own.ne (Nat.le_refl (W0.alloc (.cells #[.int .u8 41] 5)).heap.size)
      refine wpAny_ready (rs := [2, 3]) (by kernel_rfl) (by simp) (AllReady.cons rfl (fun K hK => ?_) (AllReady.cons rfl (fun K hK => ?_) AllReady.nil))
      · refine step_app_byte rfl _ _ rfl rfl hA86.own (Nat.le_trans hbase hA86.grown.size) _ 40 hP86 (by first | rfl | (rw [World.size_alloc]; rfl)) (by first | omega | (simp only [List.length_append, List.length_cons, List.length_nil]; omega)) ?_
        intro v87 W87 hApp87
        refine hK _ _ ?_
        clear hK K
        have hX88 := hApp87.box hA86.own (by decide) hX86
        have hQ88 := hApp87.other hQ86 nhQ85
        have nhQ88 : some _ ≠ v87.ownBlock := fun e => nhQ85 (hApp87.lies _ e.symm hQ86.lt).symm
        have hA88 := hA86.trans hApp87
        refine wpAny_ready (rs := [3]) (by kernel_rfl) (by simp) (AllReady.cons rfl (fun K hK => ?_) AllReady.nil)
        have cX89 := hX88.cell
        rw [cells_eq] at cX89
        go_simp
        refine hK _ _ ?_
        clear hK K
        clear cX89
        refine wpAny_ready (rs := [4]) (by kernel_rfl) (by simp) (AllReady.cons rfl (fun K hK => ?_) AllReady.nil)
        go_simp
        go_wp2_with (go_at_call 20; refine (hx _ _ _ base (hin.below (hA88.low hH hbase)) hA88.own (Nat.le_trans hbase hA88.grown.size) (by simp only [List.length_append, List.length_cons, List.length_nil]; omega)).mono ?_; rintro r W90 ⟨v90, rfl, hApp90⟩)
        have hX91 := hApp90.box hA88.own (by decide) hX88
        have hQ91 := hApp90.other hQ88 nhQ88
        have nhQ91 : some _ ≠ v90.ownBlock := fun e => nhQ88 (hApp90.lies _ e.symm hQ88.lt).symm
        have hA91 := hA88.trans hApp90
        refine wpAny_ready (rs := [6]) (by kernel_rfl) (by simp) (AllReady.cons rfl (fun K hK => ?_) AllReady.nil)
        refine step_app_byte rfl _ _ rfl rfl hA91.own (Nat.le_trans hbase hA91.grown.size) _ 41 hQ91 (by first | rfl | (rw [World.size_alloc]; rfl)) (by first | omega | (simp only [List.length_append, List.length_cons, List.length_nil]; omega)) ?_
        intro v92 W92 hApp92
        refine hK _ _ ?_
        clear hK K
        have hX93 := hApp92.box hA91.own (by decide) hX91
        have hA93 := hA91.trans hApp92
        refine wpAny_ready (rs := [7]) (by kernel_rfl) (by simp) (AllReady.cons rfl (fun K hK => ?_) AllReady.nil)
        go_simp
        refine hK _ _ ?_
        clear hK K
        refine wpAny_done (by kernel_rfl) ?_ _
        have hf := hA93
        rw [List.append_assoc, List.append_assoc] at hf
        go_wp2_with fail
        go_ret
        exact ⟨_, rfl, hf⟩
      · have cX94 := hX86.cell
        rw [cells_eq] at cX94
        go_simp
        refine hK _ _ ?_
        clear hK K
        clear cX94
        refine wpAny_ready (rs := [2]) (by kernel_rfl) (by simp) (AllReady.cons rfl (fun K hK => ?_) AllReady.nil)
        refine step_app_byte rfl _ _ rfl rfl hA86.own (Nat.le_trans hbase hA86.grown.size) _ 40 hP86 (by first | rfl | (rw [World.size_alloc]; rfl)) (by first | omega | (simp only [List.length_append, List.length_cons, List.length_nil]; omega)) ?_
        intro v95 W95 hApp95
        refine hK _ _ ?_
        clear hK K
        have hX96 := hApp95.box hA86.own (by decide) hX86
        have hQ96 := hApp95.other hQ86 nhQ85
        have nhQ96 : some _ ≠ v95.ownBlock := fun e => nhQ85 (hApp95.lies _ e.symm hQ86.lt).symm
        have hA96 := hA86.trans hApp95
        refine wpAny_ready (rs := [4]) (by kernel_rfl) (by simp) (AllReady.cons rfl (fun K hK => ?_) AllReady.nil)
        go_simp
        go_wp2_with (go_at_call 20; refine (hx _ _ _ base (hin.below (hA96.low hH hbase)) hA96.own (Nat.le_trans hbase hA96.grown.size) (by simp only [List.length_append, List.length_cons, List.length_nil]; omega)).mono ?_; rintro r W97 ⟨v97, rfl, hApp97⟩)
        have hX98 := hApp97.box hA96.own (by decide) hX96
        have hQ98 := hApp97.other hQ96 nhQ96
        have nhQ98 : some _ ≠ v97.ownBlock := fun e => nhQ96 (hApp97.lies _ e.symm hQ96.lt).symm
        have hA98 := hA96.trans hApp97
        refine wpAny_ready (rs := [6]) (by kernel_rfl) (by simp) (AllReady.cons rfl (fun K hK => ?_) AllReady.nil)
        refine step_app_byte rfl _ _ rfl rfl hA98.own (Nat.le_trans hbase hA98.grown.size) _ 41 hQ98 (by first | rfl | (rw [World.size_alloc]; rfl)) (by first | omega | (simp only [List.length_append, List.length_cons, List.length_nil]; omega)) ?_
        intro v99 W99 hApp99
        refine hK _ _ ?_
        clear hK K
        have hX100 := hApp99.box hA98.own (by decide) hX98
        have hA100 := hA98.trans hApp99
        refine wpAny_ready (rs := [7]) (by kernel_rfl) (by simp) (AllReady.cons rfl (fun K hK => ?_) AllReady.nil)
        go_simp
        refine hK _ _ ?_
        clear hK K
        refine wpAny_done (by kernel_rfl) ?_ _
        have hf := hA100
        rw [List.append_assoc, List.append_assoc] at hf
        go_wp2_with fail
        go_ret
        exact ⟨_, rfl, hf⟩
    · have cX101 := hX85.cell
      rw [cells_eq] at cX101
      go_simp
      refine hK _ _ ?_
      clear hK K
      clear cX101
      refine wpAny_ready (rs := [1]) (by kernel_rfl) (by simp) (AllReady.cons rfl (fun K hK => ?_) AllReady.nil)
      go_simp
      refine hK _ _ ?_
      clear hK K
      have hA102 := hA85.then ((Below.refl _ (W0.alloc (.cells #[.int .u8 41] 5))).alloc (Nat.le_refl _) (.cells #[.int .u8 40] 5))
      have hX102 := hX85.alloc (.cells #[.int .u8 40] 5)
      have hQ102 := hQ85.alloc (.cells #[.int .u8 40] 5)
      have hP102 := BoxN.new (W0.alloc (.cells #[.int .u8 41] 5)) 5 #[.int .u8 40]
      have nhP102 := hA85.own.ne (Nat.le_refl (W0.alloc (.cells #[.int .u8 41] 5)).heap.size)
      refine wpAny_ready (rs := [2]) (by kernel_rfl) (by simp) (AllReady.cons rfl (fun K hK => ?_) AllReady.nil)
      refine step_app_byte rfl _ _ rfl rfl hA102.own (Nat.le_trans hbase hA102.grown.size) _ 40 hP102 (by first | rfl | (rw [World.size_alloc]; rfl)) (by first | omega | (simp only [List.length_append, List.length_cons, List.length_nil]; omega)) ?_
      intro v103 W103 hApp103
      refine hK _ _ ?_
      clear hK K
      have hX104 := hApp103.box hA102.own (by decide) hX102
      have hQ104 := hApp103.other hQ102 nhQ85
      have nhQ104 : some _ ≠ v103.ownBlock := fun e => nhQ85 (hApp103.lies _ e.symm hQ102.lt).symm
      have hA104 := hA102.trans hApp103
      refine wpAny_ready (rs := [4]) (by kernel_rfl) (by simp) (AllReady.cons rfl (fun K hK => ?_) AllReady.nil)
      go_simp
      go_wp2_with (go_at_call 20; refine (hx _ _ _ base (hin.below (hA104.low hH hbase)) hA104.own (Nat.le_trans hbase hA104.grown.size) (by simp only [List.length_append, List.length_cons, List.length_nil]; omega)).mono ?_; rintro r W105 ⟨v105, rfl, hApp105⟩)
      have hX106 := hApp105.box hA104.own (by decide) hX104
      have hQ106 := hApp105.other hQ104 nhQ104
      have nhQ106 : some _ ≠ v105.ownBlock := fun e => nhQ104 (hApp105.lies _ e.symm hQ104.lt).symm
      have hA106 := hA104.trans hApp105
      refine wpAny_ready (rs := [6]) (by kernel_rfl) (by simp) (AllReady.cons rfl (fun K hK => ?_) AllReady.nil)
      refine step_app_byte rfl _ _ rfl rfl hA106.own (Nat.le_trans hbase hA106.grown.size) _ 41 hQ106 (by first | rfl | (rw [World.size_alloc]; rfl)) (by first | omega | (simp only [List.length_append, List.length_cons, List.length_nil]; omega)) ?_
      intro v107 W107 hApp107
      refine hK _ _ ?_
      clear hK K
      have hX108 := hApp107.box hA106.own (by decide) hX106
      have hA108 := hA106.trans hApp107
      refine wpAny_ready (rs := [7]) (by kernel_rfl) (by simp) (AllReady.cons rfl (fun K hK => ?_) AllReady.nil)
      go_simp
      refine hK _ _ ?_
      clear hK K
      refine wpAny_done (by kernel_rfl) ?_ _
      have hf := hA108
      rw [List.append_assoc, List.append_assoc] at hf
      go_wp2_with fail
      go_ret
      exact ⟨_, rfl, hf⟩
theorem kid_any (x : Ex) (hx : ExC x) (hok : x.okA = true) : KdC x := fun least w v l base hin hH hbase hl => by
  unfold brk
  split
  · rename_i h
    exact kid_tight x hx least w v l base hin hH hbase hl h
  · rename_i h
    exact kid_brk x hx hok least w v l base hin hH hbase hl h
end Go.Proofs.YtbeohmcmphebhaaDoor
