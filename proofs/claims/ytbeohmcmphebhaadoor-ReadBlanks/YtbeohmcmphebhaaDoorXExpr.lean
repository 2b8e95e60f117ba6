import Derived.Test.YtbeohmcmphebhaaDoorXSet
namespace Go.Proofs.YtbeohmcmphebhaaDoor
open Go.RowKit
open Ex.pr (prKs)
open Ex.okA (okL)
set_option linter.unusedVariables false
set_option linter.unusedSimpArgs false
theorem lit_size (s : ByteArray) (h : s.size ≤ 12) : (lit s.data.toList).length ≤ 50 := by
  have h1 := flat_len 32 [39, 92] s.data.toList
  rw [llen] at h1
  unfold lit
  simp only [List.length_cons, List.length_append, List.length_nil]
  omega
set_option maxRecDepth 20000 in
set_option maxHeartbeats 8000000 in
theorem expr_1 (e : Ex) (hk : e.k = 1) (w : World) (v : Value) (l : List UInt8) (base : Nat) (hin : e.In base w) (hH : Holds w base v l) (hbase : base ≤ w.heap.size) (hl : l.length + 3000 * e.size ≤ 1000000) :
    Calls Tryd.prog 20 #[v, e.val] w fun r w' => ∃ v', r = .returned v' ∧ App base w v w' v' (l ++ e.pr) := by
  have hpr : e.pr = [40, 41] := by rw [pr_eq, if_pos hk]
  rw [hpr]
  have hB := (Below.refl w.heap.size w).alloc (Nat.le_refl _) (.cells e.cells 27)
  have HB : Hid (Below w.heap.size w (w.alloc (.cells e.cells 27)) ∧ Holds (w.alloc (.cells e.cells 27)) base v l ∧ base ≤ (w.alloc (.cells e.cells 27)).heap.size ∧ e.In base (w.alloc (.cells e.cells 27))) := ⟨hB, hH.below hB, Nat.le_trans hbase hB.size, hin.below (hB.mono hbase)⟩
  have hsz1 : 1 ≤ e.size := by rw [size_eq]; omega
  have g1 : (e.k == 1) = true := by simp [hk]
  rw [val_eq]
  clear hB hk hpr hin hH
  go_enter Tryd.func20, Tryd.ntmps20
  have HO : Hid _ := HB.out.2.1
  have HS : Hid _ := HB.out.2.2.1
  rw [cells_eq] at HO HS
  go_wp2_with (at_builtin; refine wpList_app_str rfl _ _ rfl rfl HO.out HS.out ⟨#[40, 41]⟩ rfl (by show l.length + 2 ≤ _; omega) ?_; intro v2 w2 hA2; rw [← cells_eq] at hA2)
  go_ret
  exact ⟨_, rfl, App.after HB.out.1 hA2⟩
set_option maxRecDepth 20000 in
set_option maxHeartbeats 8000000 in
theorem expr_2 (e : Ex) (hk : e.k = 2) (w : World) (v : Value) (l : List UInt8) (base : Nat) (hin : e.In base w) (hH : Holds w base v l) (hbase : base ≤ w.heap.size) (hl : l.length + 3000 * e.size ≤ 1000000) :
    Calls Tryd.prog 20 #[v, e.val] w fun r w' => ∃ v', r = .returned v' ∧ App base w v w' v' (l ++ e.pr) := by
  have hpr : e.pr = (if isFull e.S then [46] else cls e.S) := by rw [pr_eq, if_neg (by omega), if_pos hk]
  rw [hpr]
  have hB := (Below.refl w.heap.size w).alloc (Nat.le_refl _) (.cells e.cells 27)
  have HB : Hid (Below w.heap.size w (w.alloc (.cells e.cells 27)) ∧ Holds (w.alloc (.cells e.cells 27)) base v l ∧ base ≤ (w.alloc (.cells e.cells 27)).heap.size ∧ e.In base (w.alloc (.cells e.cells 27))) := ⟨hB, hH.below hB, Nat.le_trans hbase hB.size, hin.below (hB.mono hbase)⟩
  have hsz1 : 1 ≤ e.size := by rw [size_eq]; omega
  have hset := set_any e.S (w.alloc (.cells e.cells 27)) v l base HB.out.2.1 HB.out.2.2.1 (by omega)
  rw [cells_eq] at hset
  generalize (if isFull e.S then [46] else cls e.S) = T at *
  have g1 : (e.k == 1) = false := by simp [hk]
  have g2 : (e.k == 2) = true := by simp [hk]
  rw [val_eq]
  clear hB hk hpr hin hH
  go_enter Tryd.func20, Tryd.ntmps20
  go_wp2_with (go_at_call 40; refine hset.mono ?_; rintro r w2 ⟨v2, rfl, hA2⟩; rw [← cells_eq] at hA2)
  go_ret
  exact ⟨_, rfl, App.after HB.out.1 hA2⟩
set_option maxRecDepth 20000 in
set_option maxHeartbeats 8000000 in
theorem expr_3 (e : Ex) (ht : e.t.size ≤ 12) (hk : e.k = 3) (w : World) (v : Value) (l : List UInt8) (base : Nat) (hin : e.In base w) (hH : Holds w base v l) (hbase : base ≤ w.heap.size) (hl : l.length + 3000 * e.size ≤ 1000000) :
    Calls Tryd.prog 20 #[v, e.val] w fun r w' => ∃ v', r = .returned v' ∧ App base w v w' v' (l ++ e.pr) := by
  have hpr : e.pr = lit e.t.data.toList := by rw [pr_eq, if_neg (by omega), if_neg (by omega), if_pos hk]
  rw [hpr]
  have hB := (Below.refl w.heap.size w).alloc (Nat.le_refl _) (.cells e.cells 27)
  have HB : Hid (Below w.heap.size w (w.alloc (.cells e.cells 27)) ∧ Holds (w.alloc (.cells e.cells 27)) base v l ∧ base ≤ (w.alloc (.cells e.cells 27)).heap.size ∧ e.In base (w.alloc (.cells e.cells 27))) := ⟨hB, hH.below hB, Nat.le_trans hbase hB.size, hin.below (hB.mono hbase)⟩
  have hsz1 : 1 ≤ e.size := by rw [size_eq]; omega
  have hlit := lit_any e.t (w.alloc (.cells e.cells 27)) (by omega)
  have hll := lit_size e.t ht
  generalize lit e.t.data.toList = L at *
  rw [cells_eq] at hlit
  have g1 : (e.k == 1) = false := by simp [hk]
  have g2 : (e.k == 2) = false := by simp [hk]
  have g3 : (e.k == 3) = true := by simp [hk]
  rw [val_eq]
  clear hB hk hpr hin hH
  go_enter Tryd.func20, Tryd.ntmps20
  go_wp2_with (first
    | (go_at_call 41; refine hlit.mono ?_; rintro r w2 ⟨rfl, hb2⟩; rw [← cells_eq] at hb2; have HB2 : Hid (Below w.heap.size w w2 ∧ Holds w2 base v l ∧ base ≤ w2.heap.size) := ⟨HB.out.1.trans (hb2.mono HB.out.1.size), HB.out.2.1.below hb2, Nat.le_trans HB.out.2.2.1 hb2.size⟩; clear hb2)
    | (at_builtin; refine wpList_app_str rfl _ _ rfl rfl HB2.out.2.1 HB2.out.2.2 ⟨L.toArray⟩ rfl (by show l.length + L.toArray.size ≤ _; simp; omega) ?_; intro v3 w3 hA3))
  go_ret
  exact ⟨_, rfl, App.after HB2.out.1 hA3⟩
set_option maxRecDepth 20000 in
set_option maxHeartbeats 8000000 in
theorem expr_4 (e : Ex) (ht : e.t.size ≤ 8) (hk : e.k = 4) (w : World) (v : Value) (l : List UInt8) (base : Nat) (hin : e.In base w) (hH : Holds w base v l) (hbase : base ≤ w.heap.size) (hl : l.length + 3000 * e.size ≤ 1000000) :
    Calls Tryd.prog 20 #[v, e.val] w fun r w' => ∃ v', r = .returned v' ∧ App base w v w' v' (l ++ e.pr) := by
  have hpr : e.pr = e.t.data.toList := by rw [pr_eq, if_neg (by omega), if_neg (by omega), if_neg (by omega), if_pos hk]
  rw [hpr]
  have hB := (Below.refl w.heap.size w).alloc (Nat.le_refl _) (.cells e.cells 27)
  have HB : Hid (Below w.heap.size w (w.alloc (.cells e.cells 27)) ∧ Holds (w.alloc (.cells e.cells 27)) base v l ∧ base ≤ (w.alloc (.cells e.cells 27)).heap.size ∧ e.In base (w.alloc (.cells e.cells 27))) := ⟨hB, hH.below hB, Nat.le_trans hbase hB.size, hin.below (hB.mono hbase)⟩
  have hsz1 : 1 ≤ e.size := by rw [size_eq]; omega
  have g1 : (e.k == 1) = false := by simp [hk]
  have g2 : (e.k == 2) = false := by simp [hk]
  have g3 : (e.k == 3) = false := by simp [hk]
  have g4 : (e.k == 4) = true := by simp [hk]
  rw [val_eq]
  clear hB hk hpr hin hH
  go_enter Tryd.func20, Tryd.ntmps20
  have HO : Hid _ := HB.out.2.1
  have HS : Hid _ := HB.out.2.2.1
  rw [cells_eq] at HO HS
  go_wp2_with (at_builtin; refine wpList_app_str rfl _ _ rfl rfl HO.out HS.out e.t rfl (by omega) ?_; intro v2 w2 hA2; rw [← cells_eq] at hA2)
  go_ret
  exact ⟨_, rfl, App.after HB.out.1 hA2⟩
set_option maxRecDepth 20000 in
set_option maxHeartbeats 8000000 in
theorem expr_6 (e : Ex) (hkd : ∀ x ∈ e.kids, KdC x) (hok : okL e.kids = true) (hk : e.k = 6) (w : World) (v : Value) (l : List UInt8) (base : Nat) (hin : e.In base w) (hH : Holds w base v l) (hbase : base ≤ w.heap.size) (hl : l.length + 3000 * e.size ≤ 1000000) :
    Calls Tryd.prog 20 #[v, e.val] w fun r w' => ∃ v', r = .returned v' ∧ App base w v w' v' (l ++ e.pr) := by
  have hpr : e.pr = Lib.join (prKs 1 e.kids) [32, 47, 32] := by rw [pr_eq, if_neg (by omega), if_neg (by omega), if_neg (by omega), if_neg (by omega), if_pos hk]
  rw [hpr]
  have hB := (Below.refl w.heap.size w).alloc (Nat.le_refl _) (.cells e.cells 27)
  have HB : Hid (Below w.heap.size w (w.alloc (.cells e.cells 27)) ∧ Holds (w.alloc (.cells e.cells 27)) base v l ∧ base ≤ (w.alloc (.cells e.cells 27)).heap.size ∧ e.In base (w.alloc (.cells e.cells 27))) := ⟨hB, hH.below hB, Nat.le_trans hbase hB.size, hin.below (hB.mono hbase)⟩
  have hsz1 : 1 ≤ e.size := by rw [size_eq]; omega
  have hks := kids_any e hkd hok 1 ⟨#[32, 47, 32]⟩ (by decide) (w.alloc (.cells e.cells 27)) v l base HB.out.2.2.2 HB.out.2.1 HB.out.2.2.1 (by rw [size_eq] at hl; omega)
  rw [cells_eq] at hks
  clear hkd hok
  have g1 : (e.k == 1) = false := by simp [hk]
  have g2 : (e.k == 2) = false := by simp [hk]
  have g3 : (e.k == 3) = false := by simp [hk]
  have g4 : (e.k == 4) = false := by simp [hk]
  have g6 : (e.k == 6) = true := by simp [hk]
  rw [val_eq]
  clear hB hk hpr hin hH
  go_enter Tryd.func20, Tryd.ntmps20
  go_wp2_with (go_at_call 42; refine hks.mono ?_; rintro r w2 ⟨v2, rfl, hA2⟩; rw [← cells_eq] at hA2)
  go_ret
  exact ⟨_, rfl, App.after HB.out.1 hA2⟩
set_option maxRecDepth 20000 in
set_option maxHeartbeats 8000000 in
theorem expr_5 (e : Ex) (hkd : ∀ x ∈ e.kids, KdC x) (hok : okL e.kids = true) (hk : e.k = 5) (w : World) (v : Value) (l : List UInt8) (base : Nat) (hin : e.In base w) (hH : Holds w base v l) (hbase : base ≤ w.heap.size) (hl : l.length + 3000 * e.size ≤ 1000000) :
    Calls Tryd.prog 20 #[v, e.val] w fun r w' => ∃ v', r = .returned v' ∧ App base w v w' v' (l ++ e.pr) := by
  have hpr : e.pr = Lib.join (prKs 2 e.kids) [32] := by rw [pr_eq, if_neg (by omega), if_neg (by omega), if_neg (by omega), if_neg (by omega), if_neg (by omega), if_pos hk]
  rw [hpr]
  have hB := (Below.refl w.heap.size w).alloc (Nat.le_refl _) (.cells e.cells 27)
  have HB : Hid (Below w.heap.size w (w.alloc (.cells e.cells 27)) ∧ Holds (w.alloc (.cells e.cells 27)) base v l ∧ base ≤ (w.alloc (.cells e.cells 27)).heap.size ∧ e.In base (w.alloc (.cells e.cells 27))) := ⟨hB, hH.below hB, Nat.le_trans hbase hB.size, hin.below (hB.mono hbase)⟩
  have hsz1 : 1 ≤ e.size := by rw [size_eq]; omega
  have hks := kids_any e hkd hok 2 ⟨#[32]⟩ (by decide) (w.alloc (.cells e.cells 27)) v l base HB.out.2.2.2 HB.out.2.1 HB.out.2.2.1 (by rw [size_eq] at hl; omega)
  rw [cells_eq] at hks
  clear hkd hok
  have g1 : (e.k == 1) = false := by simp [hk]
  have g2 : (e.k == 2) = false := by simp [hk]
  have g3 : (e.k == 3) = false := by simp [hk]
  have g4 : (e.k == 4) = false := by simp [hk]
  have g6 : (e.k == 6) = false := by simp [hk]
  have g5 : (e.k == 5) = true := by simp [hk]
  rw [val_eq]
  clear hB hk hpr hin hH
  go_enter Tryd.func20, Tryd.ntmps20
  go_wp2_with (go_at_call 42; refine hks.mono ?_; rintro r w2 ⟨v2, rfl, hA2⟩; rw [← cells_eq] at hA2)
  go_ret
  exact ⟨_, rfl, App.after HB.out.1 hA2⟩
set_option maxRecDepth 20000 in
set_option maxHeartbeats 8000000 in
theorem expr_10 (e : Ex) (hkd : ∀ x ∈ e.kids, KdC x) (hok : okL e.kids = true) (hlen1 : e.kids.length = 1) (hk : e.k = 10) (w : World) (v : Value) (l : List UInt8) (base : Nat) (hin : e.In base w) (hH : Holds w base v l) (hbase : base ≤ w.heap.size) (hl : l.length + 3000 * e.size ≤ 1000000) :
    Calls Tryd.prog 20 #[v, e.val] w fun r w' => ∃ v', r = .returned v' ∧ App base w v w' v' (l ++ e.pr) := by
  have hpr : e.pr = [38] ++ (prKs 2 e.kids).headD [] := by rw [pr_eq, if_neg (by omega), if_neg (by omega), if_neg (by omega), if_neg (by omega), if_neg (by omega), if_neg (by omega), if_pos hk]
  rw [hpr]
  obtain ⟨x, hx⟩ : ∃ x, e.kids[0]? = some x := ⟨_, List.getElem?_eq_getElem (by omega)⟩
  have hsx := size_kid (List.mem_of_getElem? hx)
  have hkx := hkd x (List.mem_of_getElem? hx)
  have hpl := pr_len x (okL_mem _ hok x (List.mem_of_getElem? hx))
  have hbl : ∀ least, (brk least x.k x.pr).length ≤ x.pr.length + 2 := fun least => brk_len least x.k x.pr
  have hhd : ∀ least, (prKs least e.kids).headD [] = brk least x.k x.pr := fun least => by
    cases hkk : e.kids with
    | nil => rw [hkk] at hx; simp at hx
    | cons y r => rw [hkk] at hx; simp at hx; subst hx; rfl
  rw [hhd]
  obtain ⟨⟨b, o, ha, -, -⟩, -⟩ := hin.kid hx
  have HKc : Hid (∀ W, Below base w W → ∀ m, m < 7 → W.cell? ⟨b, o + 0 * 7 + m, none⟩ = x.cells[m]?) := fun W hW m hm => by
    obtain ⟨⟨b', o', ha', -, hc⟩, -⟩ := (hin.below hW).kid hx
    rw [ha] at ha'
    cases ha'
    exact hc m hm
  have HKin : Hid (∀ W, Below base w W → x.In base W) := fun W hW => ((hin.below hW).kid hx).2
  have g1 : (e.k == 1) = false := by simp [hk]
  have g2 : (e.k == 2) = false := by simp [hk]
  have g3 : (e.k == 3) = false := by simp [hk]
  have g4 : (e.k == 4) = false := by simp [hk]
  have g6 : (e.k == 6) = false := by simp [hk]
  have g5 : (e.k == 5) = false := by simp [hk]
  have g10 : (e.k == 10) = true := by simp [hk]
  have hkx2 := hbl 2
  rw [val_eq]
  unfold KdC at hkx
  rw [val_eq] at hkx
  have HL : Hid (e.a = some ⟨b, o, none⟩ ∧ e.kids.length = 1) := ⟨ha, hlen1⟩
  clear hk hpr hkd hok hhd hx hbl ha hlen1
  go_enter Tryd.func20, Tryd.ntmps20
  go_wp2_with fail
  refine wp_region_any (by kernel_rfl) ?_
  change wpAny _ _ _ _ _ _ _ (World.drew _)
  have hA0 : App base w v (w.alloc (.cells e.cells 27)).drew v l := (App.refl hH).then ((Below.refl _ w).alloc (Nat.le_refl _) _).drew
  have hX0 : BoxN (w.alloc (.cells e.cells 27)).drew w.heap.size 27 e.cells := BoxN.new w 27 e.cells
  rw [← cells_eq]
  generalize (w.alloc (.cells e.cells 27)).drew = W0 at *
  refine wpAny_take (i := 0) (v := v) rfl (by kernel_rfl) (by kernel_rfl) (by kernel_rfl) (fun _ _ _ h => h) (Or.inl ⟨by rfl, ?_⟩) ?_
  · intro w; go_simp
  refine wpAny_take (i := 3) (v := .pointer (some ⟨w.heap.size, 6, none⟩)) rfl (by kernel_rfl) (by kernel_rfl) (by kernel_rfl) (fun _ _ _ h => h) (Or.inl ⟨by rfl, ?_⟩) ?_
  · intro w; go_simp
  refine wpAny_ready (rs := [1, 4]) (by kernel_rfl) (by simp) (AllReady.cons rfl (fun K hK => ?_) (AllReady.cons rfl (fun K hK => ?_) AllReady.nil))
  · go_simp
    refine hK _ _ ?_
    clear hK K
    have hA1 := hA0.then ((Below.refl _ W0).alloc (Nat.le_refl _) (.cells #[.int .u8 38] 5))
    have hX1 := hX0.alloc (.cells #[.int .u8 38] 5)
    have hP1 := BoxN.new W0 5 #[.int .u8 38]
    have nhP1 := hA0.own.ne (Nat.le_refl W0.heap.size)
    refine wpAny_ready (rs := [2, 4]) (by kernel_rfl) (by simp) (AllReady.cons rfl (fun K hK => ?_) (AllReady.cons rfl (fun K hK => ?_) AllReady.nil))
    · refine step_app_byte rfl _ _ rfl rfl hA1.own (Nat.le_trans hbase hA1.grown.size) _ 38 hP1 (by first | rfl | (rw [World.size_alloc]; rfl)) (by first | omega | (simp only [List.length_append, List.length_cons, List.length_nil]; omega)) ?_
      intro v2 W2 hApp2
      refine hK _ _ ?_
      clear hK K
      have hX3 := hApp2.box hA1.own (by decide) hX1
      have hA3 := hA1.trans hApp2
      refine wpAny_ready (rs := [4]) (by kernel_rfl) (by simp) (AllReady.cons rfl (fun K hK => ?_) AllReady.nil)
      have cX4 := hX3.cell 6
      rw [cells_eq] at cX4
      simp only [List.getElem?_toArray, List.getElem?_cons_zero, List.getElem?_cons_succ] at cX4
      rw [HL.out.1, HL.out.2] at cX4
      go_simp
      refine hK _ _ ?_
      clear hK K
      clear cX4
      refine wpAny_take (i := 5) (v := .pointer (some ⟨b, o, none⟩)) rfl (by kernel_rfl) (by kernel_rfl) (by kernel_rfl) (fun _ _ _ h => h) (Or.inl ⟨by rfl, ?_⟩) ?_
      · intro w; go_simp
      refine wpAny_ready (rs := [6]) (by kernel_rfl) (by simp) (AllReady.cons rfl (fun K hK => ?_) AllReady.nil)
      have hc5 := HKc.out _ (hA3.low hH hbase)
      have d0_5 := hc5 0 (by omega)
      have d1_5 := hc5 1 (by omega)
      have d2_5 := hc5 2 (by omega)
      have d3_5 := hc5 3 (by omega)
      have d4_5 := hc5 4 (by omega)
      have d5_5 := hc5 5 (by omega)
      have d6_5 := hc5 6 (by omega)
      rw [cells_eq] at d0_5 d1_5 d2_5 d3_5 d4_5 d5_5 d6_5
      simp only [List.getElem?_toArray, List.getElem?_cons_zero, List.getElem?_cons_succ, Nat.add_zero, Nat.zero_mul] at d0_5 d1_5 d2_5 d3_5 d4_5 d5_5 d6_5
      go_simp
      refine hK _ _ ?_
      clear hK K
      clear hc5 d0_5 d1_5 d2_5 d3_5 d4_5 d5_5 d6_5
      refine wpAny_ready (rs := [7]) (by kernel_rfl) (by simp) (AllReady.cons rfl (fun K hK => ?_) AllReady.nil)
      go_simp
      go_wp2_with (go_at_call 43; refine (hkx 2 _ _ _ base (HKin.out _ (hA3.low hH hbase)) hA3.own (Nat.le_trans hbase hA3.grown.size) (by first | omega | (simp only [List.length_append, List.length_cons, List.length_nil]; omega))).mono ?_; rintro r W6 ⟨v6, rfl, hApp6⟩)
      have hX7 := hApp6.box hA3.own (by decide) hX3
      have hA7 := hA3.trans hApp6
      refine wpAny_ready (rs := [8]) (by kernel_rfl) (by simp) (AllReady.cons rfl (fun K hK => ?_) AllReady.nil)
      go_simp
      refine hK _ _ ?_
      clear hK K
      refine wpAny_done (by kernel_rfl) ?_ _
      have hf := hA7
      simp only [List.append_assoc] at hf
      go_wp2_with fail
      go_ret
      exact ⟨_, rfl, by first | exact hf | simpa only [List.append_assoc] using hf⟩
    · have cX8 := hX1.cell 6
      rw [cells_eq] at cX8
      simp only [List.getElem?_toArray, List.getElem?_cons_zero, List.getElem?_cons_succ] at cX8
      rw [HL.out.1, HL.out.2] at cX8
      go_simp
      refine hK _ _ ?_
      clear hK K
      clear cX8
      refine wpAny_take (i := 5) (v := .pointer (some ⟨b, o, none⟩)) rfl (by kernel_rfl) (by kernel_rfl) (by kernel_rfl) (fun _ _ _ h => h) (Or.inl ⟨by rfl, ?_⟩) ?_
      · intro w; go_simp
      refine wpAny_ready (rs := [2, 6]) (by kernel_rfl) (by simp) (AllReady.cons rfl (fun K hK => ?_) (AllReady.cons rfl (fun K hK => ?_) AllReady.nil))
      · refine step_app_byte rfl _ _ rfl rfl hA1.own (Nat.le_trans hbase hA1.grown.size) _ 38 hP1 (by first | rfl | (rw [World.size_alloc]; rfl)) (by first | omega | (simp only [List.length_append, List.length_cons, List.length_nil]; omega)) ?_
        intro v9 W9 hApp9
        refine hK _ _ ?_
        clear hK K
        have hX10 := hApp9.box hA1.own (by decide) hX1
        have hA10 := hA1.trans hApp9
        refine wpAny_ready (rs := [6]) (by kernel_rfl) (by simp) (AllReady.cons rfl (fun K hK => ?_) AllReady.nil)
        have hc11 := HKc.out _ (hA10.low hH hbase)
        have d0_11 := hc11 0 (by omega)
        have d1_11 := hc11 1 (by omega)
        have d2_11 := hc11 2 (by omega)
        have d3_11 := hc11 3 (by omega)
        have d4_11 := hc11 4 (by omega)
        have d5_11 := hc11 5 (by omega)
        have d6_11 := hc11 6 (by omega)
        rw [cells_eq] at d0_11 d1_11 d2_11 d3_11 d4_11 d5_11 d6_11
        simp only [List.getElem?_toArray, List.getElem?_cons_zero, List.getElem?_cons_succ, Nat.add_zero, Nat.zero_mul] at d0_11 d1_11 d2_11 d3_11 d4_11 d5_11 d6_11
        go_simp
        refine hK _ _ ?_
        clear hK K
        clear hc11 d0_11 d1_11 d2_11 d3_11 d4_11 d5_11 d6_11
        refine wpAny_ready (rs := [7]) (by kernel_rfl) (by simp) (AllReady.cons rfl (fun K hK => ?_) AllReady.nil)
        go_simp
        go_wp2_with (go_at_call 43; refine (hkx 2 _ _ _ base (HKin.out _ (hA10.low hH hbase)) hA10.own (Nat.le_trans hbase hA10.grown.size) (by first | omega | (simp only [List.length_append, List.length_cons, List.length_nil]; omega))).mono ?_; rintro r W12 ⟨v12, rfl, hApp12⟩)
        have hX13 := hApp12.box hA10.own (by decide) hX10
        have hA13 := hA10.trans hApp12
        refine wpAny_ready (rs := [8]) (by kernel_rfl) (by simp) (AllReady.cons rfl (fun K hK => ?_) AllReady.nil)
        go_simp
        refine hK _ _ ?_
        clear hK K
        refine wpAny_done (by kernel_rfl) ?_ _
        have hf := hA13
        simp only [List.append_assoc] at hf
        go_wp2_with fail
        go_ret
        exact ⟨_, rfl, by first | exact hf | simpa only [List.append_assoc] using hf⟩
      · have hc14 := HKc.out _ (hA1.low hH hbase)
        have d0_14 := hc14 0 (by omega)
        have d1_14 := hc14 1 (by omega)
        have d2_14 := hc14 2 (by omega)
        have d3_14 := hc14 3 (by omega)
        have d4_14 := hc14 4 (by omega)
        have d5_14 := hc14 5 (by omega)
        have d6_14 := hc14 6 (by omega)
        rw [cells_eq] at d0_14 d1_14 d2_14 d3_14 d4_14 d5_14 d6_14
        simp only [List.getElem?_toArray, List.getElem?_cons_zero, List.getElem?_cons_succ, Nat.add_zero, Nat.zero_mul] at d0_14 d1_14 d2_14 d3_14 d4_14 d5_14 d6_14
        go_simp
        refine hK _ _ ?_
        clear hK K
        clear hc14 d0_14 d1_14 d2_14 d3_14 d4_14 d5_14 d6_14
        refine wpAny_ready (rs := [2]) (by kernel_rfl) (by simp) (AllReady.cons rfl (fun K hK => ?_) AllReady.nil)
        refine step_app_byte rfl _ _ rfl rfl hA1.own (Nat.le_trans hbase hA1.grown.size) _ 38 hP1 (by first | rfl | (rw [World.size_alloc]; rfl)) (by first | omega | (simp only [List.length_append, List.length_cons, List.length_nil]; omega)) ?_
        intro v15 W15 hApp15
        refine hK _ _ ?_
        clear hK K
        have hX16 := hApp15.box hA1.own (by decide) hX1
        have hA16 := hA1.trans hApp15
        refine wpAny_ready (rs := [7]) (by kernel_rfl) (by simp) (AllReady.cons rfl (fun K hK => ?_) AllReady.nil)
        go_simp
        go_wp2_with (go_at_call 43; refine (hkx 2 _ _ _ base (HKin.out _ (hA16.low hH hbase)) hA16.own (Nat.le_trans hbase hA16.grown.size) (by first | omega | (simp only [List.length_append, List.length_cons, List.length_nil]; omega))).mono ?_; rintro r W17 ⟨v17, rfl, hApp17⟩)
        have hX18 := hApp17.box hA16.own (by decide) hX16
        have hA18 := hA16.trans hApp17
        refine wpAny_ready (rs := [8]) (by kernel_rfl) (by simp) (AllReady.cons rfl (fun K hK => ?_) AllReady.nil)
        go_simp
        refine hK _ _ ?_
        clear hK K
        refine wpAny_done (by kernel_rfl) ?_ _
        have hf := hA18
        simp only [List.append_assoc] at hf
        go_wp2_with fail
        go_ret
        exact ⟨_, rfl, by first | exact hf | simpa only [List.append_assoc] using hf⟩
  · have cX19 := hX0.cell 6
    rw [cells_eq] at cX19
    simp only [List.getElem?_toArray, List.getElem?_cons_zero, List.getElem?_cons_succ] at cX19
    rw [HL.out.1, HL.out.2] at cX19
    go_simp
    refine hK _ _ ?_
    clear hK K
    clear cX19
    refine wpAny_take (i := 5) (v := .pointer (some ⟨b, o, none⟩)) rfl (by kernel_rfl) (by kernel_rfl) (by kernel_rfl) (fun _ _ _ h => h) (Or.inl ⟨by rfl, ?_⟩) ?_
    · intro w; go_simp
    refine wpAny_ready (rs := [1, 6]) (by kernel_rfl) (by simp) (AllReady.cons rfl (fun K hK => ?_) (AllReady.cons rfl (fun K hK => ?_) AllReady.nil))
    · go_simp
      refine hK _ _ ?_
      clear hK K
      have hA20 := hA0.then ((Below.refl _ W0).alloc (Nat.le_refl _) (.cells #[.int .u8 38] 5))
      have hX20 := hX0.alloc (.cells #[.int .u8 38] 5)
      have hP20 := BoxN.new W0 5 #[.int .u8 38]
      have nhP20 := hA0.own.ne (Nat.le_refl W0.heap.size)
      refine wpAny_ready (rs := [2, 6]) (by kernel_rfl) (by simp) (AllReady.cons rfl (fun K hK => ?_) (AllReady.cons rfl (fun K hK => ?_) AllReady.nil))
      · refine step_app_byte rfl _ _ rfl rfl hA20.own (Nat.le_trans hbase hA20.grown.size) _ 38 hP20 (by first | rfl | (rw [World.size_alloc]; rfl)) (by first | omega | (simp only [List.length_append, List.length_cons, List.length_nil]; omega)) ?_
        intro v21 W21 hApp21
        refine hK _ _ ?_
        clear hK K
        have hX22 := hApp21.box hA20.own (by decide) hX20
        have hA22 := hA20.trans hApp21
        refine wpAny_ready (rs := [6]) (by kernel_rfl) (by simp) (AllReady.cons rfl (fun K hK => ?_) AllReady.nil)
        have hc23 := HKc.out _ (hA22.low hH hbase)
        have d0_23 := hc23 0 (by omega)
        have d1_23 := hc23 1 (by omega)
        have d2_23 := hc23 2 (by omega)
        have d3_23 := hc23 3 (by omega)
        have d4_23 := hc23 4 (by omega)
        have d5_23 := hc23 5 (by omega)
        have d6_23 := hc23 6 (by omega)
        rw [cells_eq] at d0_23 d1_23 d2_23 d3_23 d4_23 d5_23 d6_23
        simp only [List.getElem?_toArray, List.getElem?_cons_zero, List.getElem?_cons_succ, Nat.add_zero, Nat.zero_mul] at d0_23 d1_23 d2_23 d3_23 d4_23 d5_23 d6_23
        go_simp
        refine hK _ _ ?_
        clear hK K
        clear hc23 d0_23 d1_23 d2_23 d3_23 d4_23 d5_23 d6_23
        refine wpAny_ready (rs := [7]) (by kernel_rfl) (by simp) (AllReady.cons rfl (fun K hK => ?_) AllReady.nil)
        go_simp
        go_wp2_with (go_at_call 43; refine (hkx 2 _ _ _ base (HKin.out _ (hA22.low hH hbase)) hA22.own (Nat.le_trans hbase hA22.grown.size) (by first | omega | (simp only [List.length_append, List.length_cons, List.length_nil]; omega))).mono ?_; rintro r W24 ⟨v24, rfl, hApp24⟩)
        have hX25 := hApp24.box hA22.own (by decide) hX22
        have hA25 := hA22.trans hApp24
        refine wpAny_ready (rs := [8]) (by kernel_rfl) (by simp) (AllReady.cons rfl (fun K hK => ?_) AllReady.nil)
        go_simp
        refine hK _ _ ?_
        clear hK K
        refine wpAny_done (by kernel_rfl) ?_ _
        have hf := hA25
        simp only [List.append_assoc] at hf
        go_wp2_with fail
        go_ret
        exact ⟨_, rfl, by first | exact hf | simpa only [List.append_assoc] using hf⟩
      · have hc26 := HKc.out _ (hA20.low hH hbase)
        have d0_26 := hc26 0 (by omega)
        have d1_26 := hc26 1 (by omega)
        have d2_26 := hc26 2 (by omega)
        have d3_26 := hc26 3 (by omega)
        have d4_26 := hc26 4 (by omega)
        have d5_26 := hc26 5 (by omega)
        have d6_26 := hc26 6 (by omega)
        rw [cells_eq] at d0_26 d1_26 d2_26 d3_26 d4_26 d5_26 d6_26
        simp only [List.getElem?_toArray, List.getElem?_cons_zero, List.getElem?_cons_succ, Nat.add_zero, Nat.zero_mul] at d0_26 d1_26 d2_26 d3_26 d4_26 d5_26 d6_26
        go_simp
        refine hK _ _ ?_
        clear hK K
        clear hc26 d0_26 d1_26 d2_26 d3_26 d4_26 d5_26 d6_26
        refine wpAny_ready (rs := [2]) (by kernel_rfl) (by simp) (AllReady.cons rfl (fun K hK => ?_) AllReady.nil)
        refine step_app_byte rfl _ _ rfl rfl hA20.own (Nat.le_trans hbase hA20.grown.size) _ 38 hP20 (by first | rfl | (rw [World.size_alloc]; rfl)) (by first | omega | (simp only [List.length_append, List.length_cons, List.length_nil]; omega)) ?_
        intro v27 W27 hApp27
        refine hK _ _ ?_
        clear hK K
        have hX28 := hApp27.box hA20.own (by decide) hX20
        have hA28 := hA20.trans hApp27
        refine wpAny_ready (rs := [7]) (by kernel_rfl) (by simp) (AllReady.cons rfl (fun K hK => ?_) AllReady.nil)
        go_simp
        go_wp2_with (go_at_call 43; refine (hkx 2 _ _ _ base (HKin.out _ (hA28.low hH hbase)) hA28.own (Nat.le_trans hbase hA28.grown.size) (by first | omega | (simp only [List.length_append, List.length_cons, List.length_nil]; omega))).mono ?_; rintro r W29 ⟨v29, rfl, hApp29⟩)
        have hX30 := hApp29.box hA28.own (by decide) hX28
        have hA30 := hA28.trans hApp29
        refine wpAny_ready (rs := [8]) (by kernel_rfl) (by simp) (AllReady.cons rfl (fun K hK => ?_) AllReady.nil)
        go_simp
        refine hK _ _ ?_
        clear hK K
        refine wpAny_done (by kernel_rfl) ?_ _
        have hf := hA30
        simp only [List.append_assoc] at hf
        go_wp2_with fail
        go_ret
        exact ⟨_, rfl, by first | exact hf | simpa only [List.append_assoc] using hf⟩
    · have hc31 := HKc.out _ (hA0.low hH hbase)
      have d0_31 := hc31 0 (by omega)
      have d1_31 := hc31 1 (by omega)
      have d2_31 := hc31 2 (by omega)
      have d3_31 := hc31 3 (by omega)
      have d4_31 := hc31 4 (by omega)
      have d5_31 := hc31 5 (by omega)
      have d6_31 := hc31 6 (by omega)
      rw [cells_eq] at d0_31 d1_31 d2_31 d3_31 d4_31 d5_31 d6_31
      simp only [List.getElem?_toArray, List.getElem?_cons_zero, List.getElem?_cons_succ, Nat.add_zero, Nat.zero_mul] at d0_31 d1_31 d2_31 d3_31 d4_31 d5_31 d6_31
      go_simp
      refine hK _ _ ?_
      clear hK K
      clear hc31 d0_31 d1_31 d2_31 d3_31 d4_31 d5_31 d6_31
      refine wpAny_ready (rs := [1]) (by kernel_rfl) (by simp) (AllReady.cons rfl (fun K hK => ?_) AllReady.nil)
      go_simp
      refine hK _ _ ?_
      clear hK K
      have hA32 := hA0.then ((Below.refl _ W0).alloc (Nat.le_refl _) (.cells #[.int .u8 38] 5))
      have hX32 := hX0.alloc (.cells #[.int .u8 38] 5)
      have hP32 := BoxN.new W0 5 #[.int .u8 38]
      have nhP32 := hA0.own.ne (Nat.le_refl W0.heap.size)
      refine wpAny_ready (rs := [2]) (by kernel_rfl) (by simp) (AllReady.cons rfl (fun K hK => ?_) AllReady.nil)
      refine step_app_byte rfl _ _ rfl rfl hA32.own (Nat.le_trans hbase hA32.grown.size) _ 38 hP32 (by first | rfl | (rw [World.size_alloc]; rfl)) (by first | omega | (simp only [List.length_append, List.length_cons, List.length_nil]; omega)) ?_
      intro v33 W33 hApp33
      refine hK _ _ ?_
      clear hK K
      have hX34 := hApp33.box hA32.own (by decide) hX32
      have hA34 := hA32.trans hApp33
      refine wpAny_ready (rs := [7]) (by kernel_rfl) (by simp) (AllReady.cons rfl (fun K hK => ?_) AllReady.nil)
      go_simp
      go_wp2_with (go_at_call 43; refine (hkx 2 _ _ _ base (HKin.out _ (hA34.low hH hbase)) hA34.own (Nat.le_trans hbase hA34.grown.size) (by first | omega | (simp only [List.length_append, List.length_cons, List.length_nil]; omega))).mono ?_; rintro r W35 ⟨v35, rfl, hApp35⟩)
      have hX36 := hApp35.box hA34.own (by decide) hX34
      have hA36 := hA34.trans hApp35
      refine wpAny_ready (rs := [8]) (by kernel_rfl) (by simp) (AllReady.cons rfl (fun K hK => ?_) AllReady.nil)
      go_simp
      refine hK _ _ ?_
      clear hK K
      refine wpAny_done (by kernel_rfl) ?_ _
      have hf := hA36
      simp only [List.append_assoc] at hf
      go_wp2_with fail
      go_ret
      exact ⟨_, rfl, by first | exact hf | simpa only [List.append_assoc] using hf⟩
set_option maxRecDepth 20000 in
set_option maxHeartbeats 8000000 in
theorem expr_11 (e : Ex) (hkd : ∀ x ∈ e.kids, KdC x) (hok : okL e.kids = true) (hlen1 : e.kids.length = 1) (hk : e.k = 11) (w : World) (v : Value) (l : List UInt8) (base : Nat) (hin : e.In base w) (hH : Holds w base v l) (hbase : base ≤ w.heap.size) (hl : l.length + 3000 * e.size ≤ 1000000) :
    Calls Tryd.prog 20 #[v, e.val] w fun r w' => ∃ v', r = .returned v' ∧ App base w v w' v' (l ++ e.pr) := by
  have hpr : e.pr = [33] ++ (prKs 2 e.kids).headD [] := by rw [pr_eq, if_neg (by omega), if_neg (by omega), if_neg (by omega), if_neg (by omega), if_neg (by omega), if_neg (by omega), if_neg (by omega), if_pos hk]
  rw [hpr]
  obtain ⟨x, hx⟩ : ∃ x, e.kids[0]? = some x := ⟨_, List.getElem?_eq_getElem (by omega)⟩
  have hsx := size_kid (List.mem_of_getElem? hx)
  have hkx := hkd x (List.mem_of_getElem? hx)
  have hpl := pr_len x (okL_mem _ hok x (List.mem_of_getElem? hx))
  have hbl : ∀ least, (brk least x.k x.pr).length ≤ x.pr.length + 2 := fun least => brk_len least x.k x.pr
  have hhd : ∀ least, (prKs least e.kids).headD [] = brk least x.k x.pr := fun least => by
    cases hkk : e.kids with
    | nil => rw [hkk] at hx; simp at hx
    | cons y r => rw [hkk] at hx; simp at hx; subst hx; rfl
  rw [hhd]
  obtain ⟨⟨b, o, ha, -, -⟩, -⟩ := hin.kid hx
  have HKc : Hid (∀ W, Below base w W → ∀ m, m < 7 → W.cell? ⟨b, o + 0 * 7 + m, none⟩ = x.cells[m]?) := fun W hW m hm => by
    obtain ⟨⟨b', o', ha', -, hc⟩, -⟩ := (hin.below hW).kid hx
    rw [ha] at ha'
    cases ha'
    exact hc m hm
  have HKin : Hid (∀ W, Below base w W → x.In base W) := fun W hW => ((hin.below hW).kid hx).2
  have g1 : (e.k == 1) = false := by simp [hk]
  have g2 : (e.k == 2) = false := by simp [hk]
  have g3 : (e.k == 3) = false := by simp [hk]
  have g4 : (e.k == 4) = false := by simp [hk]
  have g6 : (e.k == 6) = false := by simp [hk]
  have g5 : (e.k == 5) = false := by simp [hk]
  have g10 : (e.k == 10) = false := by simp [hk]
  have g11 : (e.k == 11) = true := by simp [hk]
  have hkx2 := hbl 2
  rw [val_eq]
  unfold KdC at hkx
  rw [val_eq] at hkx
  have HL : Hid (e.a = some ⟨b, o, none⟩ ∧ e.kids.length = 1) := ⟨ha, hlen1⟩
  clear hk hpr hkd hok hhd hx hbl ha hlen1
  go_enter Tryd.func20, Tryd.ntmps20
  go_wp2_with fail
  refine wp_region_any (by kernel_rfl) ?_
  change wpAny _ _ _ _ _ _ _ (World.drew _)
  have hA0 : App base w v (w.alloc (.cells e.cells 27)).drew v l := (App.refl hH).then ((Below.refl _ w).alloc (Nat.le_refl _) _).drew
  have hX0 : BoxN (w.alloc (.cells e.cells 27)).drew w.heap.size 27 e.cells := BoxN.new w 27 e.cells
  rw [← cells_eq]
  generalize (w.alloc (.cells e.cells 27)).drew = W0 at *
  refine wpAny_take (i := 0) (v := v) rfl (by kernel_rfl) (by kernel_rfl) (by kernel_rfl) (fun _ _ _ h => h) (Or.inl ⟨by rfl, ?_⟩) ?_
  · intro w; go_simp
  refine wpAny_take (i := 3) (v := .pointer (some ⟨w.heap.size, 6, none⟩)) rfl (by kernel_rfl) (by kernel_rfl) (by kernel_rfl) (fun _ _ _ h => h) (Or.inl ⟨by rfl, ?_⟩) ?_
  · intro w; go_simp
  refine wpAny_ready (rs := [1, 4]) (by kernel_rfl) (by simp) (AllReady.cons rfl (fun K hK => ?_) (AllReady.cons rfl (fun K hK => ?_) AllReady.nil))
  · go_simp
    refine hK _ _ ?_
    clear hK K
    have hA1 := hA0.then ((Below.refl _ W0).alloc (Nat.le_refl _) (.cells #[.int .u8 33] 5))
    have hX1 := hX0.alloc (.cells #[.int .u8 33] 5)
    have hP1 := BoxN.new W0 5 #[.int .u8 33]
    have nhP1 := hA0.own.ne (Nat.le_refl W0.heap.size)
    refine wpAny_ready (rs := [2, 4]) (by kernel_rfl) (by simp) (AllReady.cons rfl (fun K hK => ?_) (AllReady.cons rfl (fun K hK => ?_) AllReady.nil))
    · refine step_app_byte rfl _ _ rfl rfl hA1.own (Nat.le_trans hbase hA1.grown.size) _ 33 hP1 (by first | rfl | (rw [World.size_alloc]; rfl)) (by first | omega | (simp only [List.length_append, List.length_cons, List.length_nil]; omega)) ?_
      intro v2 W2 hApp2
      refine hK _ _ ?_
      clear hK K
      have hX3 := hApp2.box hA1.own (by decide) hX1
      have hA3 := hA1.trans hApp2
      refine wpAny_ready (rs := [4]) (by kernel_rfl) (by simp) (AllReady.cons rfl (fun K hK => ?_) AllReady.nil)
      have cX4 := hX3.cell 6
      rw [cells_eq] at cX4
      simp only [List.getElem?_toArray, List.getElem?_cons_zero, List.getElem?_cons_succ] at cX4
      rw [HL.out.1, HL.out.2] at cX4
      go_simp
      refine hK _ _ ?_
      clear hK K
      clear cX4
      refine wpAny_take (i := 5) (v := .pointer (some ⟨b, o, none⟩)) rfl (by kernel_rfl) (by kernel_rfl) (by kernel_rfl) (fun _ _ _ h => h) (Or.inl ⟨by rfl, ?_⟩) ?_
      · intro w; go_simp
      refine wpAny_ready (rs := [6]) (by kernel_rfl) (by simp) (AllReady.cons rfl (fun K hK => ?_) AllReady.nil)
      have hc5 := HKc.out _ (hA3.low hH hbase)
      have d0_5 := hc5 0 (by omega)
      have d1_5 := hc5 1 (by omega)
      have d2_5 := hc5 2 (by omega)
      have d3_5 := hc5 3 (by omega)
      have d4_5 := hc5 4 (by omega)
      have d5_5 := hc5 5 (by omega)
      have d6_5 := hc5 6 (by omega)
      rw [cells_eq] at d0_5 d1_5 d2_5 d3_5 d4_5 d5_5 d6_5
      simp only [List.getElem?_toArray, List.getElem?_cons_zero, List.getElem?_cons_succ, Nat.add_zero, Nat.zero_mul] at d0_5 d1_5 d2_5 d3_5 d4_5 d5_5 d6_5
      go_simp
      refine hK _ _ ?_
      clear hK K
      clear hc5 d0_5 d1_5 d2_5 d3_5 d4_5 d5_5 d6_5
      refine wpAny_ready (rs := [7]) (by kernel_rfl) (by simp) (AllReady.cons rfl (fun K hK => ?_) AllReady.nil)
      go_simp
      go_wp2_with (go_at_call 43; refine (hkx 2 _ _ _ base (HKin.out _ (hA3.low hH hbase)) hA3.own (Nat.le_trans hbase hA3.grown.size) (by first | omega | (simp only [List.length_append, List.length_cons, List.length_nil]; omega))).mono ?_; rintro r W6 ⟨v6, rfl, hApp6⟩)
      have hX7 := hApp6.box hA3.own (by decide) hX3
      have hA7 := hA3.trans hApp6
      refine wpAny_ready (rs := [8]) (by kernel_rfl) (by simp) (AllReady.cons rfl (fun K hK => ?_) AllReady.nil)
      go_simp
      refine hK _ _ ?_
      clear hK K
      refine wpAny_done (by kernel_rfl) ?_ _
      have hf := hA7
      simp only [List.append_assoc] at hf
      go_wp2_with fail
      go_ret
      exact ⟨_, rfl, by first | exact hf | simpa only [List.append_assoc] using hf⟩
    · have cX8 := hX1.cell 6
      rw [cells_eq] at cX8
      simp only [List.getElem?_toArray, List.getElem?_cons_zero, List.getElem?_cons_succ] at cX8
      rw [HL.out.1, HL.out.2] at cX8
      go_simp
      refine hK _ _ ?_
      clear hK K
      clear cX8
      refine wpAny_take (i := 5) (v := .pointer (some ⟨b, o, none⟩)) rfl (by kernel_rfl) (by kernel_rfl) (by kernel_rfl) (fun _ _ _ h => h) (Or.inl ⟨by rfl, ?_⟩) ?_
      · intro w; go_simp
      refine wpAny_ready (rs := [2, 6]) (by kernel_rfl) (by simp) (AllReady.cons rfl (fun K hK => ?_) (AllReady.cons rfl (fun K hK => ?_) AllReady.nil))
      · refine step_app_byte rfl _ _ rfl rfl hA1.own (Nat.le_trans hbase hA1.grown.size) _ 33 hP1 (by first | rfl | (rw [World.size_alloc]; rfl)) (by first | omega | (simp only [List.length_append, List.length_cons, List.length_nil]; omega)) ?_
        intro v9 W9 hApp9
        refine hK _ _ ?_
        clear hK K
        have hX10 := hApp9.box hA1.own (by decide) hX1
        have hA10 := hA1.trans hApp9
        refine wpAny_ready (rs := [6]) (by kernel_rfl) (by simp) (AllReady.cons rfl (fun K hK => ?_) AllReady.nil)
        have hc11 := HKc.out _ (hA10.low hH hbase)
        have d0_11 := hc11 0 (by omega)
        have d1_11 := hc11 1 (by omega)
        have d2_11 := hc11 2 (by omega)
        have d3_11 := hc11 3 (by omega)
        have d4_11 := hc11 4 (by omega)
        have d5_11 := hc11 5 (by omega)
        have d6_11 := hc11 6 (by omega)
        rw [cells_eq] at d0_11 d1_11 d2_11 d3_11 d4_11 d5_11 d6_11
        simp only [List.getElem?_toArray, List.getElem?_cons_zero, List.getElem?_cons_succ, Nat.add_zero, Nat.zero_mul] at d0_11 d1_11 d2_11 d3_11 d4_11 d5_11 d6_11
        go_simp
        refine hK _ _ ?_
        clear hK K
        clear hc11 d0_11 d1_11 d2_11 d3_11 d4_11 d5_11 d6_11
        refine wpAny_ready (rs := [7]) (by kernel_rfl) (by simp) (AllReady.cons rfl (fun K hK => ?_) AllReady.nil)
        go_simp
        go_wp2_with (go_at_call 43; refine (hkx 2 _ _ _ base (HKin.out _ (hA10.low hH hbase)) hA10.own (Nat.le_trans hbase hA10.grown.size) (by first | omega | (simp only [List.length_append, List.length_cons, List.length_nil]; omega))).mono ?_; rintro r W12 ⟨v12, rfl, hApp12⟩)
        have hX13 := hApp12.box hA10.own (by decide) hX10
        have hA13 := hA10.trans hApp12
        refine wpAny_ready (rs := [8]) (by kernel_rfl) (by simp) (AllReady.cons rfl (fun K hK => ?_) AllReady.nil)
        go_simp
        refine hK _ _ ?_
        clear hK K
        refine wpAny_done (by kernel_rfl) ?_ _
        have hf := hA13
        simp only [List.append_assoc] at hf
        go_wp2_with fail
        go_ret
        exact ⟨_, rfl, by first | exact hf | simpa only [List.append_assoc] using hf⟩
      · have hc14 := HKc.out _ (hA1.low hH hbase)
        have d0_14 := hc14 0 (by omega)
        have d1_14 := hc14 1 (by omega)
        have d2_14 := hc14 2 (by omega)
        have d3_14 := hc14 3 (by omega)
        have d4_14 := hc14 4 (by omega)
        have d5_14 := hc14 5 (by omega)
        have d6_14 := hc14 6 (by omega)
        rw [cells_eq] at d0_14 d1_14 d2_14 d3_14 d4_14 d5_14 d6_14
        simp only [List.getElem?_toArray, List.getElem?_cons_zero, List.getElem?_cons_succ, Nat.add_zero, Nat.zero_mul] at d0_14 d1_14 d2_14 d3_14 d4_14 d5_14 d6_14
        go_simp
        refine hK _ _ ?_
        clear hK K
        clear hc14 d0_14 d1_14 d2_14 d3_14 d4_14 d5_14 d6_14
        refine wpAny_ready (rs := [2]) (by kernel_rfl) (by simp) (AllReady.cons rfl (fun K hK => ?_) AllReady.nil)
        refine step_app_byte rfl _ _ rfl rfl hA1.own (Nat.le_trans hbase hA1.grown.size) _ 33 hP1 (by first | rfl | (rw [World.size_alloc]; rfl)) (by first | omega | (simp only [List.length_append, List.length_cons, List.length_nil]; omega)) ?_
        intro v15 W15 hApp15
        refine hK _ _ ?_
        clear hK K
        have hX16 := hApp15.box hA1.own (by decide) hX1
        have hA16 := hA1.trans hApp15
        refine wpAny_ready (rs := [7]) (by kernel_rfl) (by simp) (AllReady.cons rfl (fun K hK => ?_) AllReady.nil)
        go_simp
        go_wp2_with (go_at_call 43; refine (hkx 2 _ _ _ base (HKin.out _ (hA16.low hH hbase)) hA16.own (Nat.le_trans hbase hA16.grown.size) (by first | omega | (simp only [List.length_append, List.length_cons, List.length_nil]; omega))).mono ?_; rintro r W17 ⟨v17, rfl, hApp17⟩)
        have hX18 := hApp17.box hA16.own (by decide) hX16
        have hA18 := hA16.trans hApp17
        refine wpAny_ready (rs := [8]) (by kernel_rfl) (by simp) (AllReady.cons rfl (fun K hK => ?_) AllReady.nil)
        go_simp
        refine hK _ _ ?_
        clear hK K
        refine wpAny_done (by kernel_rfl) ?_ _
        have hf := hA18
        simp only [List.append_assoc] at hf
        go_wp2_with fail
        go_ret
        exact ⟨_, rfl, by first | exact hf | simpa only [List.append_assoc] using hf⟩
  · have cX19 := hX0.cell 6
    rw [cells_eq] at cX19
    simp only [List.getElem?_toArray, List.getElem?_cons_zero, List.getElem?_cons_succ] at cX19
    rw [HL.out.1, HL.out.2] at cX19
    go_simp
    refine hK _ _ ?_
    clear hK K
    clear cX19
    refine wpAny_take (i := 5) (v := .pointer (some ⟨b, o, none⟩)) rfl (by kernel_rfl) (by kernel_rfl) (by kernel_rfl) (fun _ _ _ h => h) (Or.inl ⟨by rfl, ?_⟩) ?_
    · intro w; go_simp
    refine wpAny_ready (rs := [1, 6]) (by kernel_rfl) (by simp) (AllReady.cons rfl (fun K hK => ?_) (AllReady.cons rfl (fun K hK => ?_) AllReady.nil))
    · go_simp
      refine hK _ _ ?_
      clear hK K
      have hA20 := hA0.then ((Below.refl _ W0).alloc (Nat.le_refl _) (.cells #[.int .u8 33] 5))
      have hX20 := hX0.alloc (.cells #[.int .u8 33] 5)
      have hP20 := BoxN.new W0 5 #[.int .u8 33]
      have nhP20 := hA0.own.ne (Nat.le_refl W0.heap.size)
      refine wpAny_ready (rs := [2, 6]) (by kernel_rfl) (by simp) (AllReady.cons rfl (fun K hK => ?_) (AllReady.cons rfl (fun K hK => ?_) AllReady.nil))
      · refine step_app_byte rfl _ _ rfl rfl hA20.own (Nat.le_trans hbase hA20.grown.size) _ 33 hP20 (by first | rfl | (rw [World.size_alloc]; rfl)) (by first | omega | (simp only [List.length_append, List.length_cons, List.length_nil]; omega)) ?_
        intro v21 W21 hApp21
        refine hK _ _ ?_
        clear hK K
        have hX22 := hApp21.box hA20.own (by decide) hX20
        have hA22 := hA20.trans hApp21
        refine wpAny_ready (rs := [6]) (by kernel_rfl) (by simp) (AllReady.cons rfl (fun K hK => ?_) AllReady.nil)
        have hc23 := HKc.out _ (hA22.low hH hbase)
        have d0_23 := hc23 0 (by omega)
        have d1_23 := hc23 1 (by omega)
        have d2_23 := hc23 2 (by omega)
        have d3_23 := hc23 3 (by omega)
        have d4_23 := hc23 4 (by omega)
        have d5_23 := hc23 5 (by omega)
        have d6_23 := hc23 6 (by omega)
        rw [cells_eq] at d0_23 d1_23 d2_23 d3_23 d4_23 d5_23 d6_23
        simp only [List.getElem?_toArray, List.getElem?_cons_zero, List.getElem?_cons_succ, Nat.add_zero, Nat.zero_mul] at d0_23 d1_23 d2_23 d3_23 d4_23 d5_23 d6_23
        go_simp
        refine hK _ _ ?_
        clear hK K
        clear hc23 d0_23 d1_23 d2_23 d3_23 d4_23 d5_23 d6_23
        refine wpAny_ready (rs := [7]) (by kernel_rfl) (by simp) (AllReady.cons rfl (fun K hK => ?_) AllReady.nil)
        go_simp
        go_wp2_with (go_at_call 43; refine (hkx 2 _ _ _ base (HKin.out _ (hA22.low hH hbase)) hA22.own (Nat.le_trans hbase hA22.grown.size) (by first | omega | (simp only [List.length_append, List.length_cons, List.length_nil]; omega))).mono ?_; rintro r W24 ⟨v24, rfl, hApp24⟩)
        have hX25 := hApp24.box hA22.own (by decide) hX22
        have hA25 := hA22.trans hApp24
        refine wpAny_ready (rs := [8]) (by kernel_rfl) (by simp) (AllReady.cons rfl (fun K hK => ?_) AllReady.nil)
        go_simp
        refine hK _ _ ?_
        clear hK K
        refine wpAny_done (by kernel_rfl) ?_ _
        have hf := hA25
        simp only [List.append_assoc] at hf
        go_wp2_with fail
        go_ret
        exact ⟨_, rfl, by first | exact hf | simpa only [List.append_assoc] using hf⟩
      · have hc26 := HKc.out _ (hA20.low hH hbase)
        have d0_26 := hc26 0 (by omega)
        have d1_26 := hc26 1 (by omega)
        have d2_26 := hc26 2 (by omega)
        have d3_26 := hc26 3 (by omega)
        have d4_26 := hc26 4 (by omega)
        have d5_26 := hc26 5 (by omega)
        have d6_26 := hc26 6 (by omega)
        rw [cells_eq] at d0_26 d1_26 d2_26 d3_26 d4_26 d5_26 d6_26
        simp only [List.getElem?_toArray, List.getElem?_cons_zero, List.getElem?_cons_succ, Nat.add_zero, Nat.zero_mul] at d0_26 d1_26 d2_26 d3_26 d4_26 d5_26 d6_26
        go_simp
        refine hK _ _ ?_
        clear hK K
        clear hc26 d0_26 d1_26 d2_26 d3_26 d4_26 d5_26 d6_26
        refine wpAny_ready (rs := [2]) (by kernel_rfl) (by simp) (AllReady.cons rfl (fun K hK => ?_) AllReady.nil)
        refine step_app_byte rfl _ _ rfl rfl hA20.own (Nat.le_trans hbase hA20.grown.size) _ 33 hP20 (by first | rfl | (rw [World.size_alloc]; rfl)) (by first | omega | (simp only [List.length_append, List.length_cons, List.length_nil]; omega)) ?_
        intro v27 W27 hApp27
        refine hK _ _ ?_
        clear hK K
        have hX28 := hApp27.box hA20.own (by decide) hX20
        have hA28 := hA20.trans hApp27
        refine wpAny_ready (rs := [7]) (by kernel_rfl) (by simp) (AllReady.cons rfl (fun K hK => ?_) AllReady.nil)
        go_simp
        go_wp2_with (go_at_call 43; refine (hkx 2 _ _ _ base (HKin.out _ (hA28.low hH hbase)) hA28.own (Nat.le_trans hbase hA28.grown.size) (by first | omega | (simp only [List.length_append, List.length_cons, List.length_nil]; omega))).mono ?_; rintro r W29 ⟨v29, rfl, hApp29⟩)
        have hX30 := hApp29.box hA28.own (by decide) hX28
        have hA30 := hA28.trans hApp29
        refine wpAny_ready (rs := [8]) (by kernel_rfl) (by simp) (AllReady.cons rfl (fun K hK => ?_) AllReady.nil)
        go_simp
        refine hK _ _ ?_
        clear hK K
        refine wpAny_done (by kernel_rfl) ?_ _
        have hf := hA30
        simp only [List.append_assoc] at hf
        go_wp2_with fail
        go_ret
        exact ⟨_, rfl, by first | exact hf | simpa only [List.append_assoc] using hf⟩
    · have hc31 := HKc.out _ (hA0.low hH hbase)
      have d0_31 := hc31 0 (by omega)
      have d1_31 := hc31 1 (by omega)
      have d2_31 := hc31 2 (by omega)
      have d3_31 := hc31 3 (by omega)
      have d4_31 := hc31 4 (by omega)
      have d5_31 := hc31 5 (by omega)
      have d6_31 := hc31 6 (by omega)
      rw [cells_eq] at d0_31 d1_31 d2_31 d3_31 d4_31 d5_31 d6_31
      simp only [List.getElem?_toArray, List.getElem?_cons_zero, List.getElem?_cons_succ, Nat.add_zero, Nat.zero_mul] at d0_31 d1_31 d2_31 d3_31 d4_31 d5_31 d6_31
      go_simp
      refine hK _ _ ?_
      clear hK K
      clear hc31 d0_31 d1_31 d2_31 d3_31 d4_31 d5_31 d6_31
      refine wpAny_ready (rs := [1]) (by kernel_rfl) (by simp) (AllReady.cons rfl (fun K hK => ?_) AllReady.nil)
      go_simp
      refine hK _ _ ?_
      clear hK K
      have hA32 := hA0.then ((Below.refl _ W0).alloc (Nat.le_refl _) (.cells #[.int .u8 33] 5))
      have hX32 := hX0.alloc (.cells #[.int .u8 33] 5)
      have hP32 := BoxN.new W0 5 #[.int .u8 33]
      have nhP32 := hA0.own.ne (Nat.le_refl W0.heap.size)
      refine wpAny_ready (rs := [2]) (by kernel_rfl) (by simp) (AllReady.cons rfl (fun K hK => ?_) AllReady.nil)
      refine step_app_byte rfl _ _ rfl rfl hA32.own (Nat.le_trans hbase hA32.grown.size) _ 33 hP32 (by first | rfl | (rw [World.size_alloc]; rfl)) (by first | omega | (simp only [List.length_append, List.length_cons, List.length_nil]; omega)) ?_
      intro v33 W33 hApp33
      refine hK _ _ ?_
      clear hK K
      have hX34 := hApp33.box hA32.own (by decide) hX32
      have hA34 := hA32.trans hApp33
      refine wpAny_ready (rs := [7]) (by kernel_rfl) (by simp) (AllReady.cons rfl (fun K hK => ?_) AllReady.nil)
      go_simp
      go_wp2_with (go_at_call 43; refine (hkx 2 _ _ _ base (HKin.out _ (hA34.low hH hbase)) hA34.own (Nat.le_trans hbase hA34.grown.size) (by first | omega | (simp only [List.length_append, List.length_cons, List.length_nil]; omega))).mono ?_; rintro r W35 ⟨v35, rfl, hApp35⟩)
      have hX36 := hApp35.box hA34.own (by decide) hX34
      have hA36 := hA34.trans hApp35
      refine wpAny_ready (rs := [8]) (by kernel_rfl) (by simp) (AllReady.cons rfl (fun K hK => ?_) AllReady.nil)
      go_simp
      refine hK _ _ ?_
      clear hK K
      refine wpAny_done (by kernel_rfl) ?_ _
      have hf := hA36
      simp only [List.append_assoc] at hf
      go_wp2_with fail
      go_ret
      exact ⟨_, rfl, by first | exact hf | simpa only [List.append_assoc] using hf⟩
set_option maxRecDepth 20000 in
set_option maxHeartbeats 8000000 in
theorem expr_7 (e : Ex) (hkd : ∀ x ∈ e.kids, KdC x) (hok : okL e.kids = true) (hlen1 : e.kids.length = 1) (hk : 7 ≤ e.k ∧ e.k ≤ 9) (w : World) (v : Value) (l : List UInt8) (base : Nat) (hin : e.In base w) (hH : Holds w base v l) (hbase : base ≤ w.heap.size) (hl : l.length + 3000 * e.size ≤ 1000000) :
    Calls Tryd.prog 20 #[v, e.val] w fun r w' => ∃ v', r = .returned v' ∧ App base w v w' v' (l ++ e.pr) := by
  have hpr : e.pr = (prKs 3 e.kids).headD [] ++ [sgn e.k] := by rw [pr_eq, if_neg (by omega), if_neg (by omega), if_neg (by omega), if_neg (by omega), if_neg (by omega), if_neg (by omega), if_neg (by omega), if_neg (by omega)]
  rw [hpr]
  obtain ⟨x, hx⟩ : ∃ x, e.kids[0]? = some x := ⟨_, List.getElem?_eq_getElem (by omega)⟩
  have hsx := size_kid (List.mem_of_getElem? hx)
  have hkx := hkd x (List.mem_of_getElem? hx)
  have hpl := pr_len x (okL_mem _ hok x (List.mem_of_getElem? hx))
  have hbl : ∀ least, (brk least x.k x.pr).length ≤ x.pr.length + 2 := fun least => brk_len least x.k x.pr
  have hhd : ∀ least, (prKs least e.kids).headD [] = brk least x.k x.pr := fun least => by
    cases hkk : e.kids with
    | nil => rw [hkk] at hx; simp at hx
    | cons y r => rw [hkk] at hx; simp at hx; subst hx; rfl
  rw [hhd]
  obtain ⟨⟨b, o, ha, -, -⟩, -⟩ := hin.kid hx
  have HKc : Hid (∀ W, Below base w W → ∀ m, m < 7 → W.cell? ⟨b, o + 0 * 7 + m, none⟩ = x.cells[m]?) := fun W hW m hm => by
    obtain ⟨⟨b', o', ha', -, hc⟩, -⟩ := (hin.below hW).kid hx
    rw [ha] at ha'
    cases ha'
    exact hc m hm
  have HKin : Hid (∀ W, Below base w W → x.In base W) := fun W hW => ((hin.below hW).kid hx).2
  have g1 : (e.k == 1) = false := by simp; omega
  have g2 : (e.k == 2) = false := by simp; omega
  have g3 : (e.k == 3) = false := by simp; omega
  have g4 : (e.k == 4) = false := by simp; omega
  have g6 : (e.k == 6) = false := by simp; omega
  have g5 : (e.k == 5) = false := by simp; omega
  have g10 : (e.k == 10) = false := by simp; omega
  have g11 : (e.k == 11) = false := by simp; omega
  have hkx2 := hbl 3
  rw [val_eq]
  unfold KdC at hkx
  rw [val_eq] at hkx
  have HL : Hid (e.a = some ⟨b, o, none⟩ ∧ e.kids.length = 1) := ⟨ha, hlen1⟩
  clear hk hpr hkd hok hhd hx hbl ha hlen1
  go_enter Tryd.func20, Tryd.ntmps20
  go_wp2_with fail
  refine wp_region_any (by kernel_rfl) ?_
  change wpAny _ _ _ _ _ _ _ (World.drew _)
  have hA0 : App base w v (w.alloc (.cells e.cells 27)).drew v l := (App.refl hH).then ((Below.refl _ w).alloc (Nat.le_refl _) _).drew
  have hX0 : BoxN (w.alloc (.cells e.cells 27)).drew w.heap.size 27 e.cells := BoxN.new w 27 e.cells
  rw [← cells_eq]
  generalize (w.alloc (.cells e.cells 27)).drew = W0 at *
  refine wpAny_take (i := 0) (v := v) rfl (by kernel_rfl) (by kernel_rfl) (by kernel_rfl) (fun _ _ _ h => h) (Or.inl ⟨by rfl, ?_⟩) ?_
  · intro w; go_simp
  refine wpAny_take (i := 1) (v := .pointer (some ⟨w.heap.size, 6, none⟩)) rfl (by kernel_rfl) (by kernel_rfl) (by kernel_rfl) (fun _ _ _ h => h) (Or.inl ⟨by rfl, ?_⟩) ?_
  · intro w; go_simp
  refine wpAny_take (i := 6) (v := .pointer (some ⟨w.heap.size, 0, none⟩)) rfl (by kernel_rfl) (by kernel_rfl) (by kernel_rfl) (fun _ _ _ h => h) (Or.inl ⟨by rfl, ?_⟩) ?_
  · intro w; go_simp
  refine wpAny_ready (rs := [2, 7]) (by kernel_rfl) (by simp) (AllReady.cons rfl (fun K hK => ?_) (AllReady.cons rfl (fun K hK => ?_) AllReady.nil))
  · have cX1 := hX0.cell 6
    rw [cells_eq] at cX1
    simp only [List.getElem?_toArray, List.getElem?_cons_zero, List.getElem?_cons_succ] at cX1
    rw [HL.out.1, HL.out.2] at cX1
    go_simp
    refine hK _ _ ?_
    clear hK K
    clear cX1
    refine wpAny_take (i := 3) (v := .pointer (some ⟨b, o, none⟩)) rfl (by kernel_rfl) (by kernel_rfl) (by kernel_rfl) (fun _ _ _ h => h) (Or.inl ⟨by rfl, ?_⟩) ?_
    · intro w; go_simp
    refine wpAny_ready (rs := [4, 7]) (by kernel_rfl) (by simp) (AllReady.cons rfl (fun K hK => ?_) (AllReady.cons rfl (fun K hK => ?_) AllReady.nil))
    · have hc2 := HKc.out _ (hA0.low hH hbase)
      have d0_2 := hc2 0 (by omega)
      have d1_2 := hc2 1 (by omega)
      have d2_2 := hc2 2 (by omega)
      have d3_2 := hc2 3 (by omega)
      have d4_2 := hc2 4 (by omega)
      have d5_2 := hc2 5 (by omega)
      have d6_2 := hc2 6 (by omega)
      rw [cells_eq] at d0_2 d1_2 d2_2 d3_2 d4_2 d5_2 d6_2
      simp only [List.getElem?_toArray, List.getElem?_cons_zero, List.getElem?_cons_succ, Nat.add_zero, Nat.zero_mul] at d0_2 d1_2 d2_2 d3_2 d4_2 d5_2 d6_2
      go_simp
      refine hK _ _ ?_
      clear hK K
      clear hc2 d0_2 d1_2 d2_2 d3_2 d4_2 d5_2 d6_2
      refine wpAny_ready (rs := [5, 7]) (by kernel_rfl) (by simp) (AllReady.cons rfl (fun K hK => ?_) (AllReady.cons rfl (fun K hK => ?_) AllReady.nil))
      · go_simp
        go_wp2_with (go_at_call 43; refine (hkx 3 _ _ _ base (HKin.out _ (hA0.low hH hbase)) hA0.own (Nat.le_trans hbase hA0.grown.size) (by first | omega | (simp only [List.length_append, List.length_cons, List.length_nil]; omega))).mono ?_; rintro r W3 ⟨v3, rfl, hApp3⟩)
        have hX4 := hApp3.box hA0.own (by decide) hX0
        have hA4 := hA0.trans hApp3
        refine wpAny_ready (rs := [7]) (by kernel_rfl) (by simp) (AllReady.cons rfl (fun K hK => ?_) AllReady.nil)
        have cX5 := hX4.cell 0
        rw [cells_eq] at cX5
        simp only [List.getElem?_toArray, List.getElem?_cons_zero, List.getElem?_cons_succ] at cX5
        go_simp
        refine hK _ _ ?_
        clear hK K
        clear cX5
        refine wpAny_ready (rs := [8]) (by kernel_rfl) (by simp) (AllReady.cons rfl (fun K hK => ?_) AllReady.nil)
        go_simp
        go_wp2_with (go_at_call 44; refine (sgn_any e.k _).mono ?_; rintro r w9 ⟨rfl, hw9⟩; rw [hw9]; clear hw9)
        refine wpAny_ready (rs := [9]) (by kernel_rfl) (by simp) (AllReady.cons rfl (fun K hK => ?_) AllReady.nil)
        go_simp
        refine hK _ _ ?_
        clear hK K
        have hA6 := hA4.then ((Below.refl _ W3).alloc (Nat.le_refl _) (.cells #[.int .u8 ((sgn e.k).toNat : Int)] 5))
        have hX6 := hX4.alloc (.cells #[.int .u8 ((sgn e.k).toNat : Int)] 5)
        have hP6 := BoxN.new W3 5 #[.int .u8 ((sgn e.k).toNat : Int)]
        have nhP6 := hA4.own.ne (Nat.le_refl W3.heap.size)
        refine wpAny_ready (rs := [10]) (by kernel_rfl) (by simp) (AllReady.cons rfl (fun K hK => ?_) AllReady.nil)
        refine step_app_byte rfl _ _ rfl rfl hA6.own (Nat.le_trans hbase hA6.grown.size) _ (sgn e.k) hP6 (by first | rfl | (rw [World.size_alloc]; rfl)) (by first | omega | (simp only [List.length_append, List.length_cons, List.length_nil]; omega)) ?_
        intro v7 W7 hApp7
        refine hK _ _ ?_
        clear hK K
        have hX8 := hApp7.box hA6.own (by decide) hX6
        have hA8 := hA6.trans hApp7
        refine wpAny_ready (rs := [11]) (by kernel_rfl) (by simp) (AllReady.cons rfl (fun K hK => ?_) AllReady.nil)
        go_simp
        refine hK _ _ ?_
        clear hK K
        refine wpAny_done (by kernel_rfl) ?_ _
        have hf := hA8
        simp only [List.append_assoc] at hf
        go_wp2_with fail
        go_ret
        exact ⟨_, rfl, by first | exact hf | simpa only [List.append_assoc] using hf⟩
      · have cX9 := hX0.cell 0
        rw [cells_eq] at cX9
        simp only [List.getElem?_toArray, List.getElem?_cons_zero, List.getElem?_cons_succ] at cX9
        go_simp
        refine hK _ _ ?_
        clear hK K
        clear cX9
        refine wpAny_ready (rs := [5]) (by kernel_rfl) (by simp) (AllReady.cons rfl (fun K hK => ?_) AllReady.nil)
        go_simp
        go_wp2_with (go_at_call 43; refine (hkx 3 _ _ _ base (HKin.out _ (hA0.low hH hbase)) hA0.own (Nat.le_trans hbase hA0.grown.size) (by first | omega | (simp only [List.length_append, List.length_cons, List.length_nil]; omega))).mono ?_; rintro r W10 ⟨v10, rfl, hApp10⟩)
        have hX11 := hApp10.box hA0.own (by decide) hX0
        have hA11 := hA0.trans hApp10
        refine wpAny_ready (rs := [8]) (by kernel_rfl) (by simp) (AllReady.cons rfl (fun K hK => ?_) AllReady.nil)
        go_simp
        go_wp2_with (go_at_call 44; refine (sgn_any e.k _).mono ?_; rintro r w9 ⟨rfl, hw9⟩; rw [hw9]; clear hw9)
        refine wpAny_ready (rs := [9]) (by kernel_rfl) (by simp) (AllReady.cons rfl (fun K hK => ?_) AllReady.nil)
        go_simp
        refine hK _ _ ?_
        clear hK K
        have hA12 := hA11.then ((Below.refl _ W10).alloc (Nat.le_refl _) (.cells #[.int .u8 ((sgn e.k).toNat : Int)] 5))
        have hX12 := hX11.alloc (.cells #[.int .u8 ((sgn e.k).toNat : Int)] 5)
        have hP12 := BoxN.new W10 5 #[.int .u8 ((sgn e.k).toNat : Int)]
        have nhP12 := hA11.own.ne (Nat.le_refl W10.heap.size)
        refine wpAny_ready (rs := [10]) (by kernel_rfl) (by simp) (AllReady.cons rfl (fun K hK => ?_) AllReady.nil)
        refine step_app_byte rfl _ _ rfl rfl hA12.own (Nat.le_trans hbase hA12.grown.size) _ (sgn e.k) hP12 (by first | rfl | (rw [World.size_alloc]; rfl)) (by first | omega | (simp only [List.length_append, List.length_cons, List.length_nil]; omega)) ?_
        intro v13 W13 hApp13
        refine hK _ _ ?_
        clear hK K
        have hX14 := hApp13.box hA12.own (by decide) hX12
        have hA14 := hA12.trans hApp13
        refine wpAny_ready (rs := [11]) (by kernel_rfl) (by simp) (AllReady.cons rfl (fun K hK => ?_) AllReady.nil)
        go_simp
        refine hK _ _ ?_
        clear hK K
        refine wpAny_done (by kernel_rfl) ?_ _
        have hf := hA14
        simp only [List.append_assoc] at hf
        go_wp2_with fail
        go_ret
        exact ⟨_, rfl, by first | exact hf | simpa only [List.append_assoc] using hf⟩
    · have cX15 := hX0.cell 0
      rw [cells_eq] at cX15
      simp only [List.getElem?_toArray, List.getElem?_cons_zero, List.getElem?_cons_succ] at cX15
      go_simp
      refine hK _ _ ?_
      clear hK K
      clear cX15
      refine wpAny_ready (rs := [4]) (by kernel_rfl) (by simp) (AllReady.cons rfl (fun K hK => ?_) AllReady.nil)
      have hc16 := HKc.out _ (hA0.low hH hbase)
      have d0_16 := hc16 0 (by omega)
      have d1_16 := hc16 1 (by omega)
      have d2_16 := hc16 2 (by omega)
      have d3_16 := hc16 3 (by omega)
      have d4_16 := hc16 4 (by omega)
      have d5_16 := hc16 5 (by omega)
      have d6_16 := hc16 6 (by omega)
      rw [cells_eq] at d0_16 d1_16 d2_16 d3_16 d4_16 d5_16 d6_16
      simp only [List.getElem?_toArray, List.getElem?_cons_zero, List.getElem?_cons_succ, Nat.add_zero, Nat.zero_mul] at d0_16 d1_16 d2_16 d3_16 d4_16 d5_16 d6_16
      go_simp
      refine hK _ _ ?_
      clear hK K
      clear hc16 d0_16 d1_16 d2_16 d3_16 d4_16 d5_16 d6_16
      refine wpAny_ready (rs := [5]) (by kernel_rfl) (by simp) (AllReady.cons rfl (fun K hK => ?_) AllReady.nil)
      go_simp
      go_wp2_with (go_at_call 43; refine (hkx 3 _ _ _ base (HKin.out _ (hA0.low hH hbase)) hA0.own (Nat.le_trans hbase hA0.grown.size) (by first | omega | (simp only [List.length_append, List.length_cons, List.length_nil]; omega))).mono ?_; rintro r W17 ⟨v17, rfl, hApp17⟩)
      have hX18 := hApp17.box hA0.own (by decide) hX0
      have hA18 := hA0.trans hApp17
      refine wpAny_ready (rs := [8]) (by kernel_rfl) (by simp) (AllReady.cons rfl (fun K hK => ?_) AllReady.nil)
      go_simp
      go_wp2_with (go_at_call 44; refine (sgn_any e.k _).mono ?_; rintro r w9 ⟨rfl, hw9⟩; rw [hw9]; clear hw9)
      refine wpAny_ready (rs := [9]) (by kernel_rfl) (by simp) (AllReady.cons rfl (fun K hK => ?_) AllReady.nil)
      go_simp
      refine hK _ _ ?_
      clear hK K
      have hA19 := hA18.then ((Below.refl _ W17).alloc (Nat.le_refl _) (.cells #[.int .u8 ((sgn e.k).toNat : Int)] 5))
      have hX19 := hX18.alloc (.cells #[.int .u8 ((sgn e.k).toNat : Int)] 5)
      have hP19 := BoxN.new W17 5 #[.int .u8 ((sgn e.k).toNat : Int)]
      have nhP19 := hA18.own.ne (Nat.le_refl W17.heap.size)
      refine wpAny_ready (rs := [10]) (by kernel_rfl) (by simp) (AllReady.cons rfl (fun K hK => ?_) AllReady.nil)
      refine step_app_byte rfl _ _ rfl rfl hA19.own (Nat.le_trans hbase hA19.grown.size) _ (sgn e.k) hP19 (by first | rfl | (rw [World.size_alloc]; rfl)) (by first | omega | (simp only [List.length_append, List.length_cons, List.length_nil]; omega)) ?_
      intro v20 W20 hApp20
      refine hK _ _ ?_
      clear hK K
      have hX21 := hApp20.box hA19.own (by decide) hX19
      have hA21 := hA19.trans hApp20
      refine wpAny_ready (rs := [11]) (by kernel_rfl) (by simp) (AllReady.cons rfl (fun K hK => ?_) AllReady.nil)
      go_simp
      refine hK _ _ ?_
      clear hK K
      refine wpAny_done (by kernel_rfl) ?_ _
      have hf := hA21
      simp only [List.append_assoc] at hf
      go_wp2_with fail
      go_ret
      exact ⟨_, rfl, by first | exact hf | simpa only [List.append_assoc] using hf⟩
  · have cX22 := hX0.cell 0
    rw [cells_eq] at cX22
    simp only [List.getElem?_toArray, List.getElem?_cons_zero, List.getElem?_cons_succ] at cX22
    go_simp
    refine hK _ _ ?_
    clear hK K
    clear cX22
    refine wpAny_ready (rs := [2]) (by kernel_rfl) (by simp) (AllReady.cons rfl (fun K hK => ?_) AllReady.nil)
    have cX23 := hX0.cell 6
    rw [cells_eq] at cX23
    simp only [List.getElem?_toArray, List.getElem?_cons_zero, List.getElem?_cons_succ] at cX23
    rw [HL.out.1, HL.out.2] at cX23
    go_simp
    refine hK _ _ ?_
    clear hK K
    clear cX23
    refine wpAny_take (i := 3) (v := .pointer (some ⟨b, o, none⟩)) rfl (by kernel_rfl) (by kernel_rfl) (by kernel_rfl) (fun _ _ _ h => h) (Or.inl ⟨by rfl, ?_⟩) ?_
    · intro w; go_simp
    refine wpAny_ready (rs := [4]) (by kernel_rfl) (by simp) (AllReady.cons rfl (fun K hK => ?_) AllReady.nil)
    have hc24 := HKc.out _ (hA0.low hH hbase)
    have d0_24 := hc24 0 (by omega)
    have d1_24 := hc24 1 (by omega)
    have d2_24 := hc24 2 (by omega)
    have d3_24 := hc24 3 (by omega)
    have d4_24 := hc24 4 (by omega)
    have d5_24 := hc24 5 (by omega)
    have d6_24 := hc24 6 (by omega)
    rw [cells_eq] at d0_24 d1_24 d2_24 d3_24 d4_24 d5_24 d6_24
    simp only [List.getElem?_toArray, List.getElem?_cons_zero, List.getElem?_cons_succ, Nat.add_zero, Nat.zero_mul] at d0_24 d1_24 d2_24 d3_24 d4_24 d5_24 d6_24
    go_simp
    refine hK _ _ ?_
    clear hK K
    clear hc24 d0_24 d1_24 d2_24 d3_24 d4_24 d5_24 d6_24
    refine wpAny_ready (rs := [5]) (by kernel_rfl) (by simp) (AllReady.cons rfl (fun K hK => ?_) AllReady.nil)
    go_simp
    go_wp2_with (go_at_call 43; refine (hkx 3 _ _ _ base (HKin.out _ (hA0.low hH hbase)) hA0.own (Nat.le_trans hbase hA0.grown.size) (by first | omega | (simp only [List.length_append, List.length_cons, List.length_nil]; omega))).mono ?_; rintro r W25 ⟨v25, rfl, hApp25⟩)
    have hX26 := hApp25.box hA0.own (by decide) hX0
    have hA26 := hA0.trans hApp25
    refine wpAny_ready (rs := [8]) (by kernel_rfl) (by simp) (AllReady.cons rfl (fun K hK => ?_) AllReady.nil)
    go_simp
    go_wp2_with (go_at_call 44; refine (sgn_any e.k _).mono ?_; rintro r w9 ⟨rfl, hw9⟩; rw [hw9]; clear hw9)
    refine wpAny_ready (rs := [9]) (by kernel_rfl) (by simp) (AllReady.cons rfl (fun K hK => ?_) AllReady.nil)
    go_simp
    refine hK _ _ ?_
    clear hK K
    have hA27 := hA26.then ((Below.refl _ W25).alloc (Nat.le_refl _) (.cells #[.int .u8 ((sgn e.k).toNat : Int)] 5))
    have hX27 := hX26.alloc (.cells #[.int .u8 ((sgn e.k).toNat : Int)] 5)
    have hP27 := BoxN.new W25 5 #[.int .u8 ((sgn e.k).toNat : Int)]
    have nhP27 := hA26.own.ne (Nat.le_refl W25.heap.size)
    refine wpAny_ready (rs := [10]) (by kernel_rfl) (by simp) (AllReady.cons rfl (fun K hK => ?_) AllReady.nil)
    refine step_app_byte rfl _ _ rfl rfl hA27.own (Nat.le_trans hbase hA27.grown.size) _ (sgn e.k) hP27 (by first | rfl | (rw [World.size_alloc]; rfl)) (by first | omega | (simp only [List.length_append, List.length_cons, List.length_nil]; omega)) ?_
    intro v28 W28 hApp28
    refine hK _ _ ?_
    clear hK K
    have hX29 := hApp28.box hA27.own (by decide) hX27
    have hA29 := hA27.trans hApp28
    refine wpAny_ready (rs := [11]) (by kernel_rfl) (by simp) (AllReady.cons rfl (fun K hK => ?_) AllReady.nil)
    go_simp
    refine hK _ _ ?_
    clear hK K
    refine wpAny_done (by kernel_rfl) ?_ _
    have hf := hA29
    simp only [List.append_assoc] at hf
    go_wp2_with fail
    go_ret
    exact ⟨_, rfl, by first | exact hf | simpa only [List.append_assoc] using hf⟩
/-- appendExpr puts an expression's text behind. -/
theorem expr_any : ∀ (s : Nat) (e : Ex), e.size ≤ s → e.okA = true → ExC e := by
  intro s
  induction s with
  | zero =>
    intro e he
    rw [size_eq] at he; omega
  | succ s ih =>
    intro e he hok w v l base hin hH hbase hl
    have hf : formOk e = true := by rw [okA_eq, Bool.and_eq_true] at hok; exact hok.1
    have hk : okL e.kids = true := by rw [okA_eq, Bool.and_eq_true] at hok; exact hok.2
    have hkd : ∀ x ∈ e.kids, KdC x := fun x hx => by
      have h1 := size_kid hx
      have h2 := okA_kid hok hx
      exact kid_any x (ih x (by omega) h2) h2
    rcases form_kinds e hf with (⟨h1, _⟩ | ⟨h1, _⟩ | ⟨h1, _, h2⟩ | ⟨h1, _, h2⟩) | ⟨h1 | h1, _⟩ | ⟨h1, h2, h3⟩
    · exact expr_1 e h1 w v l base hin hH hbase hl
    · exact expr_2 e h1 w v l base hin hH hbase hl
    · exact expr_3 e h2 h1 w v l base hin hH hbase hl
    · exact expr_4 e h2 h1 w v l base hin hH hbase hl
    · exact expr_5 e hkd hk h1 w v l base hin hH hbase hl
    · exact expr_6 e hkd hk h1 w v l base hin hH hbase hl
    · by_cases h10 : e.k = 10
      · exact expr_10 e hkd hk h3 h10 w v l base hin hH hbase hl
      · by_cases h11 : e.k = 11
        · exact expr_11 e hkd hk h3 h11 w v l base hin hH hbase hl
        · exact expr_7 e hkd hk h3 ⟨h1, by omega⟩ w v l base hin hH hbase hl
end Go.Proofs.YtbeohmcmphebhaaDoor
