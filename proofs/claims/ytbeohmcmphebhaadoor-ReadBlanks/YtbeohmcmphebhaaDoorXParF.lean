import Derived.Test.YtbeohmcmphebhaaDoorXParE
namespace Go.Proofs.YtbeohmcmphebhaaDoor
open Go.RowKit
open Ex.Ou (OuL)
set_option linter.unusedVariables false
def e7 : Array Value := #[.int .i64 1, .int .u64 0, .int .u64 0, .int .u64 0, .int .u64 0, .string ⟨#[]⟩, .slice none 0 0]
theorem e7_eq : e7 = #[.int .i64 1, .int .u64 0, .int .u64 0, .int .u64 0, .int .u64 0, .string ⟨#[]⟩, .slice none 0 0] := rfl
set_option maxRecDepth 20000 in
set_option maxHeartbeats 4000000 in
theorem prim_none (T : ByteArray) (B : Nat) (t : Tk) (w : World) (hB : BoxN w B 60 (pcells T t)) (h1 : ¬ t.k = 1) (h40 : ¬ t.k = 40) :
    Calls Tryd.prog 73 #[.pointer (some ⟨B, 0, none⟩)] w fun e w' => PR T B w (.error t.s) e w' := by
  have g1 : ((t.k.toNat : Int) == 1) = false := ne_int h1 (by decide)
  have R0 : Hid (Rp T B w (w.alloc (.cells z7 27)) t) := Rp.start hB
  have hcb := R0.out.box.cell
  rw [pcells_eq] at hcb
  have hwt := want_any T B t 40 (w.alloc (.cells z7 27)) R0.out.box
  simp only [if_neg h40] at hwt
  unfold thrown at hwt
  rw [show (((40 : UInt8).toNat : Nat) : Int) = 40 from rfl] at hwt
  rw [z7_eq] at hcb hwt
  clear hB h1 h40
  go_enter Tryd.func73, Tryd.ntmps73
  go_wp2_with (go_at_call 25; refine hwt.mono ?_; rintro e w3 ⟨rfl, rfl⟩)
  rw [← z7_eq]
  exact ⟨rfl, rfl, R0.out.gr⟩
set_option maxRecDepth 20000 in
set_option maxHeartbeats 4000000 in
theorem prim_brack (T : ByteArray) (B n : Nat) (pre : Tk → Rs) (hT : T.size ≤ 1000000) (hg : Goes T.data.toList n (altP pre)) (hd : Does T B 15 n (altP pre)) (t : Tk) (w : World) (ht : t.of T.data.toList) (hn : t.s.length ≤ n) (hB : BoxN w B 60 (pcells T t)) (h40 : t.k = 40) :
    Calls Tryd.prog 73 #[.pointer (some ⟨B, 0, none⟩)] w fun e w' => PR T B w (primP pre t) e w' := by
  have hBl := hB.lt
  have h1 : ¬ t.k = 1 := by rw [h40]; decide
  have h0 : t.k ≠ 0 := by rw [h40]; decide
  have g1 : ((t.k.toNat : Int) == 1) = false := ne_int h1 (by decide)
  have R0 : Hid (Rp T B w (w.alloc (.cells z7 27)) t) := Rp.start hB
  have hcb := R0.out.box.cell
  rw [pcells_eq] at hcb
  have hwt := want_any T B t 40 (w.alloc (.cells z7 27)) R0.out.box
  simp only [if_pos h40] at hwt
  rw [show (((40 : UInt8).toNat : Nat) : Int) = 40 from rfl] at hwt
  have htk := take_any T B t (w.alloc (.cells z7 27)) (by omega) ht R0.out.box
  have htf := take_fine ht h0
  rw [z7_eq] at hcb hwt htk
  unfold primP
  rw [if_neg h1, if_pos h40]
  clear h1 h40 hB h0
  cases hu : take t with
  | error s =>
    rw [hu] at htk
    rw [thn_error]
    unfold TakeR at htk
    simp only at htk
    unfold thrown at htk
    clear hu htf
    go_enter Tryd.func73, Tryd.ntmps73
    go_wp2_with (first
      | (go_at_call 25; refine hwt.mono ?_; rintro e w3 ⟨rfl, rfl⟩)
      | (go_at_call 24; refine htk.mono ?_; rintro e w3 ⟨rfl, hg3⟩; rw [← z7_eq] at hg3))
    exact ⟨rfl, rfl, gr_trans R0.out.gr hg3⟩
  | ok u =>
    rw [hu] at htk htf
    simp only at htf
    rw [thn_ok]
    unfold TakeR at htk
    simp only at htk
    have HU : Hid (u.of T.data.toList ∧ u.s.length < t.s.length) := htf
    have HE : Hid (∀ {W1 : World}, W1.heap.size ≤ W1.heap.size + 1 → Rp T B w W1 u → Rp T B w (W1.alloc (.cells e7 27)) u ∧ BoxN (W1.alloc (.cells e7 27)) W1.heap.size 27 e7 ∧ w.heap.size < W1.heap.size) := fun _ h => ⟨h.alloc _, BoxN.new _ 27 e7, h.res.lt⟩
    clear hu htf ht
    by_cases h41 : u.k = 41
    · have hu0 : u.k ≠ 0 := by rw [h41]; decide
      have g41 : ((u.k.toNat : Int) != 41) = false := by rw [bne_eq_false_iff_eq, h41]; rfl
      have hw2 : ∀ W, BoxN W B 60 (pcells T u) → _ := fun W hW => want_any T B u 41 W hW
      simp only [if_pos h41] at hw2
      rw [show (((41 : UInt8).toNat : Nat) : Int) = 41 from rfl] at hw2
      have ht2 : ∀ W, BoxN W B 60 (pcells T u) → _ := fun W hW => take_any T B u W (by omega) HU.out.1 hW
      rw [if_pos h41]
      clear h41 hu0
      cases hv : take u with
      | error s =>
        rw [hv] at ht2
        rw [thn_error]
        unfold TakeR at ht2
        simp only at ht2
        unfold thrown at ht2
        clear hv
        go_enter Tryd.func73, Tryd.ntmps73
        go_wp2_with (first
          | (go_at_call 25; refine hwt.mono ?_; clear hwt; rintro e w3 ⟨rfl, rfl⟩)
          | (go_at_call 24; refine htk.mono ?_; clear htk; rintro e w1 ⟨rfl, hb1, hg1⟩; rw [← z7_eq] at hg1; have R1 : Hid _ := R0.out.call hg1 hb1; have R2 : Hid _ := HE.out (by omega) R1.out; have hc2 := R2.out.1.box.cell; rw [pcells_eq, e7_eq] at hc2; clear hb1 hg1)
          | (go_at_call 25; refine (hw2 _ R2.out.1.box).mono ?_; clear hw2; rintro e w3 ⟨rfl, rfl⟩)
          | (go_at_call 24; refine (ht2 _ R2.out.1.box).mono ?_; clear ht2; rintro e w4 ⟨rfl, hg4⟩))
        exact ⟨rfl, rfl, gr_trans R2.out.1.gr hg4⟩
      | ok v =>
        rw [hv] at ht2
        rw [thn_ok]
        unfold TakeR at ht2
        simp only at ht2
        clear hv
        have HO : Hid (∀ W, Says w.heap.size W (nd 1 []) (.returned (.agg e7))) := fun W => ⟨nd 1 [], by
          have := nd0_val 1
          rw [val_eq] at this
          rw [this]; rfl, bare_one 1, leaf_ou _ (by decide) rfl⟩
        rw [e7_eq] at HO
        go_enter Tryd.func73, Tryd.ntmps73
        go_wp2_with (first
          | (go_at_call 25; refine hwt.mono ?_; clear hwt; rintro e w3 ⟨rfl, rfl⟩)
          | (go_at_call 24; refine htk.mono ?_; clear htk; rintro e w1 ⟨rfl, hb1, hg1⟩; rw [← z7_eq] at hg1; have R1 : Hid _ := R0.out.call hg1 hb1; have R2 : Hid _ := HE.out (by omega) R1.out; have hc2 := R2.out.1.box.cell; rw [pcells_eq, e7_eq] at hc2; clear hb1 hg1)
          | (go_at_call 25; refine (hw2 _ R2.out.1.box).mono ?_; clear hw2; rintro e w3 ⟨rfl, rfl⟩)
          | (go_at_call 24; refine (ht2 _ R2.out.1.box).mono ?_; clear ht2; rintro e w4 ⟨rfl, hb4, hg4⟩; have R4 : Hid _ := R2.out.1.call hg4 hb4; have hc4 := (R2.out.2.1.kept hg4 (fun e => by cases e; have := R2.out.2.2; omega)).cell; rw [e7_eq] at hc4; clear hb4 hg4)
          | (refine wpList_store_box rfl 27 _ _ rfl w.heap.size _ rfl rfl z7 R4.out.res Tryd.info27 rfl (by simp [Value.oneCell']) ?_; intro w5 hx5 hg5; have hc := hx5.cell))
        exact bodyPost_ret (by simp [results, Tryd.results73, go_sem, hc]) rfl ⟨HO.out w5, R4.out.last hg5⟩
    · have g41 : ((u.k.toNat : Int) != 41) = true := by have := ne_int h41 (by decide); simpa [bne] using this
      rw [if_neg h41]
      have hun : u.s.length < n := by have := HU.out.2; omega
      have hal : ∀ W, BoxN W B 60 (pcells T u) → _ := fun W hW => hd u W HU.out.1 hun hW
      have hfin := hg u HU.out.1 hun
      clear h41 hun
      cases hp : altP pre u with
      | error s =>
        rw [hp] at hal
        rw [thn_error]
        unfold PR at hal
        simp only at hal
        unfold thrown at hal
        clear hp hfin
        go_enter Tryd.func73, Tryd.ntmps73
        go_wp2_with (first
          | (go_at_call 25; refine hwt.mono ?_; clear hwt; rintro e w3 ⟨rfl, rfl⟩)
          | (go_at_call 24; refine htk.mono ?_; clear htk; rintro e w1 ⟨rfl, hb1, hg1⟩; rw [← z7_eq] at hg1; have R1 : Hid _ := R0.out.call hg1 hb1; have R2 : Hid _ := HE.out (by omega) R1.out; have hc2 := R2.out.1.box.cell; rw [pcells_eq, e7_eq] at hc2; clear hb1 hg1)
          | (go_at_call 15; refine (hal _ R2.out.1.box).mono ?_; clear hal; rintro e w4 ⟨rfl, hg4⟩))
        exact ⟨rfl, rfl, gr_trans R2.out.1.gr hg4⟩
      | ok x =>
        rw [hp] at hal hfin
        rw [thn_ok]
        unfold PR at hal
        simp only at hal
        unfold Says at hal
        have HF : Hid (x.2.of T.data.toList) := hfin.1
        clear hp hfin
        have hw2 : ∀ W, BoxN W B 60 (pcells T x.2) → _ := fun W hW => want_any T B x.2 41 W hW
        rw [show (((41 : UInt8).toNat : Nat) : Int) = 41 from rfl] at hw2
        by_cases h42 : x.2.k = 41
        · simp only [if_pos h42] at hw2
          rw [if_pos h42]
          have ht2 : ∀ W, BoxN W B 60 (pcells T x.2) → _ := fun W hW => take_any T B x.2 W (by omega) HF.out hW
          clear h42
          cases hv : take x.2 with
          | error s =>
            rw [hv] at ht2
            rw [thn_error]
            unfold TakeR at ht2
            simp only at ht2
            unfold thrown at ht2
            clear hv
            go_enter Tryd.func73, Tryd.ntmps73
            go_wp2_with (first
              | (go_at_call 25; refine hwt.mono ?_; clear hwt; rintro e w3 ⟨rfl, rfl⟩)
              | (go_at_call 24; refine htk.mono ?_; clear htk; rintro e w1 ⟨rfl, hb1, hg1⟩; rw [← z7_eq] at hg1; have R1 : Hid _ := R0.out.call hg1 hb1; have R2 : Hid _ := HE.out (by omega) R1.out; have hc2 := R2.out.1.box.cell; rw [pcells_eq, e7_eq] at hc2; clear hb1 hg1)
              | (go_at_call 15; refine (hal _ R2.out.1.box).mono ?_; clear hal; rintro e w4 ⟨⟨y, rfl, hye, hyo⟩, hb4, hg4⟩; have R4 : Hid _ := R2.out.1.call hg4 hb4; have B4 : Hid _ := R2.out.2.1.kept hg4 (fun e => by cases e; have := R2.out.2.2; omega); clear hb4 hg4 hyo hye)
              | (refine wpList_store_box rfl 27 _ _ rfl w1.heap.size _ rfl rfl e7 B4.out Tryd.info27 rfl (by simp [Value.oneCell']) ?_; intro w5 hx5 hg5; have R5 : Hid _ := R4.out.own hg5 R2.out.2.2; clear hx5 hg5)
              | (go_at_call 25; refine (hw2 _ R5.out.box).mono ?_; clear hw2; rintro e w3 ⟨rfl, rfl⟩)
              | (go_at_call 24; refine (ht2 _ R5.out.box).mono ?_; clear ht2; rintro e w6 ⟨rfl, hg6⟩))
            exact ⟨rfl, rfl, gr_trans R5.out.gr hg6⟩
          | ok v =>
            rw [hv] at ht2
            rw [thn_ok]
            unfold TakeR at ht2
            simp only at ht2
            clear hv
            go_enter Tryd.func73, Tryd.ntmps73
            go_wp2_with (first
              | (go_at_call 25; refine hwt.mono ?_; clear hwt; rintro e w3 ⟨rfl, rfl⟩)
              | (go_at_call 24; refine htk.mono ?_; clear htk; rintro e w1 ⟨rfl, hb1, hg1⟩; rw [← z7_eq] at hg1; have R1 : Hid _ := R0.out.call hg1 hb1; have R2 : Hid _ := HE.out (by omega) R1.out; have hc2 := R2.out.1.box.cell; rw [pcells_eq, e7_eq] at hc2; clear hb1 hg1)
              | (go_at_call 15; refine (hal _ R2.out.1.box).mono ?_; clear hal; rintro e w4 ⟨⟨y, rfl, hye, hyo⟩, hb4, hg4⟩; have R4 : Hid _ := R2.out.1.call hg4 hb4; have B4 : Hid _ := R2.out.2.1.kept hg4 (fun e => by cases e; have := R2.out.2.2; omega); have HYO : Hid _ := hyo; clear hb4 hg4 hyo)
              | (refine wpList_store_box rfl 27 _ _ rfl w1.heap.size _ rfl rfl e7 B4.out Tryd.info27 rfl (by simp [Value.oneCell']) ?_; intro w5 hx5 hg5; have R5 : Hid _ := R4.out.own hg5 R2.out.2.2; have B5 : Hid _ := hx5; have G5 : Hid _ := hg5; clear hx5 hg5)
              | (go_at_call 25; refine (hw2 _ R5.out.box).mono ?_; clear hw2; rintro e w3 ⟨rfl, rfl⟩)
              | (go_at_call 24; refine (ht2 _ R5.out.box).mono ?_; clear ht2; rintro e w6 ⟨rfl, hb6, hg6⟩; have R6 : Hid _ := R5.out.call hg6 hb6; have hc6 := (BoxN.kept (t := 27) B5.out hg6 (fun e => by cases e; have := R2.out.2.2; omega)).cell; have G6 : Hid _ := hg6; clear hb6 hg6)
              | (refine wpList_store_box rfl 27 _ _ rfl w.heap.size _ rfl rfl z7 R6.out.res Tryd.info27 rfl (by simp [Value.oneCell']) ?_; intro w7 hx7 hg7; have hc := hx7.cell))
            refine bodyPost_ret (by simp [results, Tryd.results73, go_sem, hc]) rfl ⟨⟨y, rfl, hye, ?_⟩, R6.out.last hg7⟩
            have hlt2 := R2.out.2.2
            have N1 := Ex.Ou.gr (Q := (w1.heap.size < ·)) G5.out (fun b hb _ => ⟨fun e => by cases e; simp at hb; omega, by simp at hb; omega⟩) HYO.out
            have N2 := Ex.Ou.gr (Q := (w1.heap.size < ·)) G6.out (fun b hb _ => ⟨fun e => by cases e; omega, hb⟩) N1
            exact N2.gr hg7 (fun b hb _ => ⟨fun e => by cases e; omega, by omega⟩)
        · simp only [if_neg h42] at hw2
          rw [if_neg h42]
          unfold thrown at hw2
          clear h42
          go_enter Tryd.func73, Tryd.ntmps73
          go_wp2_with (first
            | (go_at_call 25; refine hwt.mono ?_; clear hwt; rintro e w3 ⟨rfl, rfl⟩)
            | (go_at_call 24; refine htk.mono ?_; clear htk; rintro e w1 ⟨rfl, hb1, hg1⟩; rw [← z7_eq] at hg1; have R1 : Hid _ := R0.out.call hg1 hb1; have R2 : Hid _ := HE.out (by omega) R1.out; have hc2 := R2.out.1.box.cell; rw [pcells_eq, e7_eq] at hc2; clear hb1 hg1)
            | (go_at_call 15; refine (hal _ R2.out.1.box).mono ?_; clear hal; rintro e w4 ⟨⟨y, rfl, hye, hyo⟩, hb4, hg4⟩; have R4 : Hid _ := R2.out.1.call hg4 hb4; have B4 : Hid _ := R2.out.2.1.kept hg4 (fun e => by cases e; have := R2.out.2.2; omega); clear hb4 hg4 hyo hye)
            | (refine wpList_store_box rfl 27 _ _ rfl w1.heap.size _ rfl rfl e7 B4.out Tryd.info27 rfl (by simp [Value.oneCell']) ?_; intro w5 hx5 hg5; have R5 : Hid _ := R4.out.own hg5 R2.out.2.2; clear hx5 hg5)
            | (go_at_call 25; refine (hw2 _ R5.out.box).mono ?_; clear hw2; rintro e w3 ⟨rfl, rfl⟩))
          exact ⟨rfl, rfl, R5.out.gr⟩
theorem prim_does (T : ByteArray) (B n : Nat) (pre : Tk → Rs) (hT : T.size ≤ 1000000) (hg : Goes T.data.toList n (altP pre)) (hd : Does T B 15 n (altP pre)) : Does T B 73 (n + 1) (primP pre) := by
  intro t w ht hn hB
  by_cases h1 : t.k = 1
  · unfold primP; rw [if_pos h1]; exact prim_leaf T B t w hT ht hB h1
  · by_cases h40 : t.k = 40
    · exact prim_brack T B n pre hT hg hd t w ht (by omega) hB h40
    · unfold primP; rw [if_neg h1, if_neg h40]; exact prim_none T B t w hB h1 h40
end Go.Proofs.YtbeohmcmphebhaaDoor
