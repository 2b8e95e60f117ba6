import Derived.Test.YtbeohmcmphebhaaDoorXParF
namespace Go.Proofs.YtbeohmcmphebhaaDoor
open Go.RowKit
open Ex.Ou (OuL)
set_option linter.unusedVariables false
set_option maxRecDepth 20000 in
set_option maxHeartbeats 4000000 in
theorem pre_and (T : ByteArray) (B n : Nat) (hT : T.size ≤ 1000000) (hd : Does T B 52 n (preP n)) (t : Tk) (w : World) (ht : t.of T.data.toList) (hn : t.s.length < n + 1) (hB : BoxN w B 60 (pcells T t)) (hk : t.k = 38) :
    Calls Tryd.prog 52 #[.pointer (some ⟨B, 0, none⟩)] w fun e w' => PR T B w (thn (take t) fun u => thn (preP n u) fun x => .ok (nd 10 [x.1], x.2)) e w' := by
  have hBl := hB.lt
  have h0 : t.k ≠ 0 := by rw [hk]; decide
  have g38 : ((t.k.toNat : Int) == 38) = true := eq_int hk (by decide)

  have R0 : Hid (Rp T B w (w.alloc (.cells z7 27)) t) := Rp.start hB
  have hcb := R0.out.box.cell
  rw [pcells_eq] at hcb
  have htk := take_any T B t (w.alloc (.cells z7 27)) (by omega) ht R0.out.box
  have htf := take_fine ht h0
  rw [z7_eq] at hcb htk
  clear hk hB h0
  cases hu : take t with
  | error s =>
    rw [hu] at htk
    rw [thn_error]
    unfold TakeR at htk
    simp only at htk
    unfold thrown at htk
    clear hu htf ht
    go_enter Tryd.func52, Tryd.ntmps52
    go_wp2_with (go_at_call 24; refine htk.mono ?_; rintro e w3 ⟨rfl, hg3⟩; rw [← z7_eq] at hg3)
    exact ⟨rfl, rfl, gr_trans R0.out.gr hg3⟩
  | ok u =>
    rw [hu] at htk htf
    simp only at htf
    rw [thn_ok]
    unfold TakeR at htk
    simp only at htk
    have hpr : ∀ W, BoxN W B 60 (pcells T u) → _ := fun W hW => hd u W htf.1 (by omega) hW
    clear hu htf ht
    cases hp : preP n u with
    | error s =>
      rw [hp] at hpr
      rw [thn_error]
      unfold PR at hpr
      simp only at hpr
      unfold thrown at hpr
      clear hp
      go_enter Tryd.func52, Tryd.ntmps52
      go_wp2_with (first
        | (go_at_call 24; refine htk.mono ?_; clear htk; rintro e w1 ⟨rfl, hb1, hg1⟩; rw [← z7_eq] at hg1; have R1 : Hid _ := R0.out.call hg1 hb1; clear hb1 hg1)
        | (go_at_call 52; refine (hpr _ R1.out.box).mono ?_; clear hpr; rintro e w4 ⟨rfl, hg4⟩))
      exact ⟨rfl, rfl, gr_trans R1.out.gr hg4⟩
    | ok x =>
      rw [hp] at hpr
      rw [thn_ok]
      unfold PR at hpr
      simp only at hpr
      unfold Says at hpr
      clear hp
      go_enter Tryd.func52, Tryd.ntmps52
      go_wp2_with (first
        | (go_at_call 24; refine htk.mono ?_; clear htk; rintro e w1 ⟨rfl, hb1, hg1⟩; rw [← z7_eq] at hg1; have R1 : Hid _ := R0.out.call hg1 hb1; clear hb1 hg1)
        | (go_at_call 52; refine (hpr _ R1.out.box).mono ?_; clear hpr; rintro e w4 ⟨⟨y, rfl, hye, hyo⟩, hb4, hg4⟩; have R4 : Hid _ := R1.out.call hg4 hb4; have HYO : Hid (y.Ou (w.heap.size + 1 ≤ ·) w4) := hyo.gr (gr_refl B w4) (fun b hb _ => ⟨fun e => by cases e; have := R1.out.res.lt; omega, by have := R1.out.res.lt; omega⟩); clear hb4 hg4 hyo)
        | (go_at_call 72; refine (around_any (w.heap.size + 1) 10 y w4 (by have := R4.out.res.lt; omega) HYO.out).mono ?_; rintro e w5 ⟨⟨z, rfl, hze, hzo⟩, hb5⟩; have R5 : Hid _ := R4.out.below hb5; have HZO : Hid _ := hzo; clear hzo hb5)
        | (refine wpList_store_box rfl 27 _ _ rfl w.heap.size _ rfl rfl z7 R5.out.res Tryd.info27 rfl (by simp [Value.oneCell']) ?_; intro w7 hx7 hg7; have hc := hx7.cell))
      refine bodyPost_ret (by simp [results, Tryd.results52, go_sem, hc]) rfl ⟨⟨z, rfl, by rw [hze, hye], ?_⟩, R5.out.last hg7⟩
      exact Ex.Ou.gr hg7 (fun b hb _ => ⟨fun e => by cases e; omega, by omega⟩) HZO.out
set_option maxRecDepth 20000 in
set_option maxHeartbeats 4000000 in
theorem pre_not (T : ByteArray) (B n : Nat) (hT : T.size ≤ 1000000) (hd : Does T B 52 n (preP n)) (t : Tk) (w : World) (ht : t.of T.data.toList) (hn : t.s.length < n + 1) (hB : BoxN w B 60 (pcells T t)) (hk : t.k = 33) :
    Calls Tryd.prog 52 #[.pointer (some ⟨B, 0, none⟩)] w fun e w' => PR T B w (thn (take t) fun u => thn (preP n u) fun x => .ok (nd 11 [x.1], x.2)) e w' := by
  have hBl := hB.lt
  have h0 : t.k ≠ 0 := by rw [hk]; decide
  have g33 : ((t.k.toNat : Int) == 33) = true := eq_int hk (by decide)
  have g38 : ((t.k.toNat : Int) == 38) = false := ne_int (by rw [hk]; decide) (by decide)
  have R0 : Hid (Rp T B w (w.alloc (.cells z7 27)) t) := Rp.start hB
  have hcb := R0.out.box.cell
  rw [pcells_eq] at hcb
  have htk := take_any T B t (w.alloc (.cells z7 27)) (by omega) ht R0.out.box
  have htf := take_fine ht h0
  rw [z7_eq] at hcb htk
  clear hk hB h0
  cases hu : take t with
  | error s =>
    rw [hu] at htk
    rw [thn_error]
    unfold TakeR at htk
    simp only at htk
    unfold thrown at htk
    clear hu htf ht
    go_enter Tryd.func52, Tryd.ntmps52
    go_wp2_with (go_at_call 24; refine htk.mono ?_; rintro e w3 ⟨rfl, hg3⟩; rw [← z7_eq] at hg3)
    exact ⟨rfl, rfl, gr_trans R0.out.gr hg3⟩
  | ok u =>
    rw [hu] at htk htf
    simp only at htf
    rw [thn_ok]
    unfold TakeR at htk
    simp only at htk
    have hpr : ∀ W, BoxN W B 60 (pcells T u) → _ := fun W hW => hd u W htf.1 (by omega) hW
    clear hu htf ht
    cases hp : preP n u with
    | error s =>
      rw [hp] at hpr
      rw [thn_error]
      unfold PR at hpr
      simp only at hpr
      unfold thrown at hpr
      clear hp
      go_enter Tryd.func52, Tryd.ntmps52
      go_wp2_with (first
        | (go_at_call 24; refine htk.mono ?_; clear htk; rintro e w1 ⟨rfl, hb1, hg1⟩; rw [← z7_eq] at hg1; have R1 : Hid _ := R0.out.call hg1 hb1; clear hb1 hg1)
        | (go_at_call 52; refine (hpr _ R1.out.box).mono ?_; clear hpr; rintro e w4 ⟨rfl, hg4⟩))
      exact ⟨rfl, rfl, gr_trans R1.out.gr hg4⟩
    | ok x =>
      rw [hp] at hpr
      rw [thn_ok]
      unfold PR at hpr
      simp only at hpr
      unfold Says at hpr
      clear hp
      go_enter Tryd.func52, Tryd.ntmps52
      go_wp2_with (first
        | (go_at_call 24; refine htk.mono ?_; clear htk; rintro e w1 ⟨rfl, hb1, hg1⟩; rw [← z7_eq] at hg1; have R1 : Hid _ := R0.out.call hg1 hb1; clear hb1 hg1)
        | (go_at_call 52; refine (hpr _ R1.out.box).mono ?_; clear hpr; rintro e w4 ⟨⟨y, rfl, hye, hyo⟩, hb4, hg4⟩; have R4 : Hid _ := R1.out.call hg4 hb4; have HYO : Hid (y.Ou (w.heap.size + 1 ≤ ·) w4) := hyo.gr (gr_refl B w4) (fun b hb _ => ⟨fun e => by cases e; have := R1.out.res.lt; omega, by have := R1.out.res.lt; omega⟩); clear hb4 hg4 hyo)
        | (go_at_call 72; refine (around_any (w.heap.size + 1) 11 y w4 (by have := R4.out.res.lt; omega) HYO.out).mono ?_; rintro e w5 ⟨⟨z, rfl, hze, hzo⟩, hb5⟩; have R5 : Hid _ := R4.out.below hb5; have HZO : Hid _ := hzo; clear hzo hb5)
        | (refine wpList_store_box rfl 27 _ _ rfl w.heap.size _ rfl rfl z7 R5.out.res Tryd.info27 rfl (by simp [Value.oneCell']) ?_; intro w7 hx7 hg7; have hc := hx7.cell))
      refine bodyPost_ret (by simp [results, Tryd.results52, go_sem, hc]) rfl ⟨⟨z, rfl, by rw [hze, hye], ?_⟩, R5.out.last hg7⟩
      exact Ex.Ou.gr hg7 (fun b hb _ => ⟨fun e => by cases e; omega, by omega⟩) HZO.out
end Go.Proofs.YtbeohmcmphebhaaDoor
