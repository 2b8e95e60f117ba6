import Derived.Test.YtbeohmcmphebhaaDoorXPRd
import Derived.Test.YtbeohmcmphebhaaDoorXRPg
import Derived.Test.YtbeohmcmphebhaaDoorXRSc
import Derived.Test.YtbeohmcmphebhaaDoorXRexpr
import Derived.Test.YtbeohmcmphebhaaDoorXRsame
import Derived.Test.YtbeohmcmphebhaaDoorXRSd
namespace Go.Proofs.YtbeohmcmphebhaaDoor
open Go.RowKit
set_option linter.unusedVariables false
structure PzK (R : Except (List UInt8) Ex) (y : Ex) (v : Tk) (b : Bool) : Prop where
  no : (b = false ∨ ¬ v.k = 0) → R = .error v.s
  ok : b = true → v.k = 0 → R = .ok y.er
theorem pzK {A : Rs} {y : Ex} {v : Tk} {b : Bool} (hm : match A with | .ok x => b = true ∧ y.er = x.1 ∧ v = x.2 | .error s => v.s = s ∧ (b = true → v.k = 4)) : PzK (thn A fun x => if x.2.k = 0 then Except.ok x.1 else Except.error x.2.s) y v b := by
  cases A with
  | error s =>
    refine ⟨fun _ => by rw [hm.1]; rfl, fun h h0 => ?_⟩
    have := hm.2 h
    rw [h0] at this
    exact absurd this (by decide)
  | ok x =>
    refine ⟨fun h => ?_, fun _ h0 => by rw [thn_ok, ← hm.2.2, if_pos h0, hm.2.1]⟩
    rcases h with h | h
    · rw [hm.1] at h; cases h
    · rw [thn_ok, ← hm.2.2, if_neg h]
theorem rgne {n g N : Nat} {L : List Tk} {W : World} {t : Tk} (h : TW n g L W) (hf : L[0]? = some t) (hb : BoxN W N 27 z7) : g ≠ N := fun e => by
  have h1 := h.cells hf 9 (by omega)
  rw [e, hb.cell] at h1
  exact absurd h1 (by simp [z7, tkcs])
theorem parse_thn (l : List UInt8) : parse l = thn (altP (preP (l.length + 1)) (tok l)) fun x => if x.2.k = 0 then Except.ok x.1 else Except.error x.2.s := by
  unfold parse
  by_cases h4 : (tok l).k = 4
  · rw [if_pos h4, altP_tells (preP_tells _) _ h4]; rfl
  · rw [if_neg h4]
set_option maxRecDepth 20000 in
set_option maxHeartbeats 8000000 in
theorem rparse_any (T : ByteArray) (w : World) (hmx : T.size ≤ 140737488355328) : Calls Tryd.prog 9 #[.string T] w fun e w' => PPR T w e w' := by
  have bR := BoxN.new w 27 z7
  have hR0 := (Below.refl w.heap.size w).alloc (Nat.le_refl _) (.cells z7 27)
  by_cases hL : 2000 < T.size
  · have g1 : decide ((2000 : Int) < (T.size : Int)) = true := decide_eq_true (by omega)
    have HP : Hid (pread T.data.toList = (nd 0 [], 0, 2)) := pread_large hL
    have HK : Hid (BoxN (w.alloc (.cells z7 27)) w.heap.size 27 z7 ∧ Below w.heap.size w (w.alloc (.cells z7 27))) := ⟨bR, hR0⟩
    clear hL bR hR0
    go_enter Tryd.func9, Tryd.ntmps9
    go_wp2_with (refine wpList_store_box rfl 27 _ _ rfl w.heap.size _ rfl rfl z7 HK.out.1 Tryd.info27 rfl (by simp [Value.oneCell']) ?_; intro w5 hx5 hg5; have hc := hx5.cell)
    refine bodyPost_ret (v := .tuple #[.agg z7, .int .i64 0, .int .i64 2]) (by simp [results, Tryd.results9, go_sem, hc, z7_eq]) rfl ?_
    exact ppr_no (HK.out.2.grown hg5 HK.out.2.size (fun k e => by have := Option.some.inj e; omega)) HP.out
  · have hT : T.size ≤ 2000 := by omega
    have g1 : decide ((2000 : Int) < (T.size : Int)) = false := decide_eq_false (by omega)
    have htk := tokens_any T (w.alloc (.cells z7 27)) hT
    unfold TksR at htk
    have HB0 : Hid (∀ {W}, Below (w.alloc (.cells z7 27)).heap.size (w.alloc (.cells z7 27)) W → BoxN W w.heap.size 27 z7 ∧ Below w.heap.size w W ∧ w.heap.size < W.heap.size) := fun hb => ⟨bR.below hb (by simp), hR0.trans (hb.mono hR0.size), by have := hb.size; simp at this; omega⟩
    have hpt := parse_thn T.data.toList
    rw [llen] at hpt
    have HPE : Hid (∀ s, parse T.data.toList = .error s → pread T.data.toList = (nd 0 [], (T.size : Int) - s.length, 4)) := fun s h => pread_err hL h
    have HPO : Hid (∀ y : Ex, parse T.data.toList = .ok y.er → pread T.data.toList = if check y ≠ 0 then (nd 0 [], 0, check y) else (y.er, 0, 0)) := fun y h => pread_ok hL h
    have HPT : Hid _ := hpt
    rw [z7_eq] at htk
    clear hpt bR hR0 hL
    go_enter Tryd.func9, Tryd.ntmps9
    go_wp2_with (first
      | (go_at_call 16; refine htk.mono ?_; clear htk; rintro e w1 ⟨g, cap, L, rfl, hTL, hTW, hfst, hb1⟩; rw [← z7_eq] at hb1; obtain ⟨b1, b2, b3⟩ := HB0.out hb1; have hal : Calls Tryd.prog 17 #[.slice (some ⟨g, 0, none⟩) L.length cap, .int .i64 0] w1 fun e w' => RdP L w1.heap.size w' (altP (preP (T.size + 1)) (tok T.data.toList)) e ∧ Below w1.heap.size w1 w' := ralt_any T g cap L (by omega) hTL (T.size + 1) 0 (tok T.data.toList) w1 hfst (by have := hTL.small hfst; omega) hTW; unfold RdP at hal; have HX : Hid (TL T L ∧ TW T.size g L w1 ∧ BoxN w1 w.heap.size 27 z7 ∧ Below w.heap.size w w1 ∧ w.heap.size < w1.heap.size) := ⟨hTL, hTW, b1, b2, b3⟩; have hLn := hTL.len; have hne : g ≠ w.heap.size := rgne hTW hfst b1; clear hTL hTW hfst hb1 b1 b2 b3 HB0)
      | (go_at_call 17; refine hal.mono ?_; clear hal; rintro e w3 ⟨⟨y, j, v, b, rfl, hyo, hjv, hm⟩, hb3⟩; have HM : Hid (PzK (parse T.data.toList) y v b) := (by rw [HPT.out]; exact pzK hm); have HV : Hid _ := hjv; have hjl := get_lt hjv; have bE := BoxN.new w3 27 y.cells; have hA3 := (Below.refl w3.heap.size w3).alloc (Nat.le_refl _) (.cells y.cells 27); have K3 : Hid (BoxN (w3.alloc (.cells y.cells 27)) w.heap.size 27 z7 ∧ Below w.heap.size w (w3.alloc (.cells y.cells 27)) ∧ TW T.size g L (w3.alloc (.cells y.cells 27)) ∧ BoxN (w3.alloc (.cells y.cells 27)) w3.heap.size 27 y.cells ∧ y.Ou (w1.heap.size ≤ ·) (w3.alloc (.cells y.cells 27)) ∧ w.heap.size < w3.heap.size) := ⟨(HX.out.2.2.1.below hb3 HX.out.2.2.1.lt).alloc _, (HX.out.2.2.2.1.trans (hb3.mono HX.out.2.2.2.1.size)).alloc (HX.out.2.2.2.1.trans (hb3.mono HX.out.2.2.2.1.size)).size _, (HX.out.2.1.below hb3).alloc _, bE, hyo.below hA3 (fun _ h => h), by have := hb3.size; have := HX.out.2.2.2.2; omega⟩; have ck := K3.out.2.2.1.kind hjv; have ca : (w3.alloc (.cells y.cells 27)).cell? ⟨g, j * 10 + 1, none⟩ = some (.int .i64 ((T.size : Int) - v.s.length)) := K3.out.2.2.1.cells hjv 1 (by omega); have ce := bE.cell; obtain ⟨C, HC, hck⟩ : ∃ C : Int, Hid (check y = C) ∧ ∀ W, y.In W.heap.size W → Calls Tryd.prog 18 #[.agg #[.int .i64 y.k, .int .u64 (wd y.S 0), .int .u64 (wd y.S 1), .int .u64 (wd y.S 2), .int .u64 (wd y.S 3), .string y.t, .slice y.a y.kids.length y.c]] W fun r W' => r = .returned (.int .i64 C) ∧ Below W.heap.size W W' := ⟨_, rfl, fun W h => rexpr_any y W h⟩; have hk3 := hck _ K3.out.2.2.2.2.1.inn; rw [cells_eq] at ck ca ce hk3 K3; clear hyo hjv hm hb3 bE hA3 hck; cases b)
      | (go_at_call 18; refine hk3.mono ?_; clear hk3; rintro e w4 ⟨rfl, hb4⟩; have K4 : Hid (BoxN w4 w.heap.size 27 z7 ∧ Below w.heap.size w w4 ∧ BoxN w4 w3.heap.size 27 y.cells ∧ y.Ou (w1.heap.size ≤ ·) w4) := ⟨K3.out.1.below hb4 K3.out.1.lt, K3.out.2.1.trans (hb4.mono K3.out.2.1.size), K3.out.2.2.2.1.below hb4 K3.out.2.2.2.1.lt, K3.out.2.2.2.2.1.below hb4 (fun _ h => h)⟩; have ce4 := K4.out.2.2.1.cell; rw [cells_eq] at ce4; clear hb4 ce ck ca)
      | (refine wpList_store_box rfl 27 _ _ rfl w.heap.size _ rfl rfl z7 K4.out.1 Tryd.info27 rfl (by simp [Value.oneCell']) ?_; intro w5 hx5 hg5; have hc := hx5.cell))
    · have cr := K3.out.1.cell
      have fr := K3.out.1.frozen
      rw [z7_eq] at cr
      go_region
      go_wp2_with fail
      have q := box_setCells (B := w.heap.size) (t := 27) [.int .i64 0, .int .u64 0, .int .u64 0, .int .u64 0, .int .u64 0, .string ⟨#[]⟩, .slice none 0 0] (w3.alloc (.cells #[.int .i64 y.k, .int .u64 (wd y.S 0), .int .u64 (wd y.S 1), .int .u64 (wd y.S 2), .int .u64 (wd y.S 3), .string y.t, .slice y.a y.kids.length y.c] 27)) 0 z7 K3.out.1
      have hz : setl z7 0 [.int .i64 0, .int .u64 0, .int .u64 0, .int .u64 0, .int .u64 0, .string ⟨#[]⟩, .slice none 0 0] = z7 := by simp [setl, z7]
      rw [hz] at q
      change bodyPost _ _ _ _ _ (World.setCells (w3.alloc (.cells #[.int .i64 y.k, .int .u64 (wd y.S 0), .int .u64 (wd y.S 1), .int .u64 (wd y.S 2), .int .u64 (wd y.S 3), .string y.t, .slice y.a y.kids.length y.c] 27)) w.heap.size 0 [.int .i64 0, .int .u64 0, .int .u64 0, .int .u64 0, .int .u64 0, .string ⟨#[]⟩, .slice none 0 0]).drew
      generalize World.setCells (w3.alloc (.cells #[.int .i64 y.k, .int .u64 (wd y.S 0), .int .u64 (wd y.S 1), .int .u64 (wd y.S 2), .int .u64 (wd y.S 3), .string y.t, .slice y.a y.kids.length y.c] 27)) w.heap.size 0 [.int .i64 0, .int .u64 0, .int .u64 0, .int .u64 0, .int .u64 0, .string ⟨#[]⟩, .slice none 0 0] = W5 at q ⊢
      have hc : ∀ j, W5.drew.cell? ⟨w.heap.size, j, none⟩ = z7[j]? := q.1.cell
      rw [z7_eq] at hc
      refine bodyPost_ret (v := .tuple #[.agg z7, .int .i64 ((T.size : Int) - v.s.length), .int .i64 4]) (by simp [results, Tryd.results9, go_sem, hc, z7_eq]) rfl ?_
      exact ppr_no (K3.out.2.1.grown q.2 K3.out.2.1.size (fun k e => by have := Option.some.inj e; omega)).drew (HPE.out _ (HM.out.no (.inl rfl)))
    · have cr := K3.out.1.cell
      have fr := K3.out.1.frozen
      rw [z7_eq] at cr
      go_region
      go_wp2_with fail
      have q := box_setCells (B := w.heap.size) (t := 27) [.int .i64 0, .int .u64 0, .int .u64 0, .int .u64 0, .int .u64 0, .string ⟨#[]⟩, .slice none 0 0] (w3.alloc (.cells #[.int .i64 y.k, .int .u64 (wd y.S 0), .int .u64 (wd y.S 1), .int .u64 (wd y.S 2), .int .u64 (wd y.S 3), .string y.t, .slice y.a y.kids.length y.c] 27)) 0 z7 K3.out.1
      have hz : setl z7 0 [.int .i64 0, .int .u64 0, .int .u64 0, .int .u64 0, .int .u64 0, .string ⟨#[]⟩, .slice none 0 0] = z7 := by simp [setl, z7]
      rw [hz] at q
      change bodyPost _ _ _ _ _ (World.setCells (w3.alloc (.cells #[.int .i64 y.k, .int .u64 (wd y.S 0), .int .u64 (wd y.S 1), .int .u64 (wd y.S 2), .int .u64 (wd y.S 3), .string y.t, .slice y.a y.kids.length y.c] 27)) w.heap.size 0 [.int .i64 0, .int .u64 0, .int .u64 0, .int .u64 0, .int .u64 0, .string ⟨#[]⟩, .slice none 0 0]).drew
      generalize World.setCells (w3.alloc (.cells #[.int .i64 y.k, .int .u64 (wd y.S 0), .int .u64 (wd y.S 1), .int .u64 (wd y.S 2), .int .u64 (wd y.S 3), .string y.t, .slice y.a y.kids.length y.c] 27)) w.heap.size 0 [.int .i64 0, .int .u64 0, .int .u64 0, .int .u64 0, .int .u64 0, .string ⟨#[]⟩, .slice none 0 0] = W5 at q ⊢
      have hc : ∀ j, W5.drew.cell? ⟨w.heap.size, j, none⟩ = z7[j]? := q.1.cell
      rw [z7_eq] at hc
      refine bodyPost_ret (v := .tuple #[.agg z7, .int .i64 ((T.size : Int) - v.s.length), .int .i64 4]) (by simp [results, Tryd.results9, go_sem, hc, z7_eq]) rfl ?_
      exact ppr_no (K3.out.2.1.grown q.2 K3.out.2.1.size (fun k e => by have := Option.some.inj e; omega)).drew (HPE.out _ (HM.out.no (.inr (fun h0 => by have h := ‹(((rk v.k).toNat : Int) != 101) = true›; rw [h0] at h; revert h; decide))))
    · have hk0 : v.k = 0 := by
        have h := ‹(((rk v.k).toNat : Int) != 101) = false›
        rw [← (rk_fin v.k (HX.out.1.kd HV.out)).2.2.2.2.2.2.2.2.2.1]
        rw [bne_eq_false_iff_eq] at h
        exact UInt8.toNat_inj.1 (by show (rk v.k).toNat = 101; omega)
      have hp := HPO.out y (HM.out.ok rfl hk0)
      have hC : (C != 0) = true := by assumption
      rw [if_pos (by rw [HC.out]; simpa using hC), HC.out] at hp
      refine bodyPost_ret (v := .tuple #[.agg z7, .int .i64 0, .int .i64 C]) (by simp [results, Tryd.results9, go_sem, hc, z7_eq]) rfl ?_
      exact ppr_no (K4.out.2.1.grown hg5 K4.out.2.1.size (fun k e => by have := Option.some.inj e; omega)) hp
    · have hk0 : v.k = 0 := by
        have h := ‹(((rk v.k).toNat : Int) != 101) = false›
        rw [← (rk_fin v.k (HX.out.1.kd HV.out)).2.2.2.2.2.2.2.2.2.1]
        rw [bne_eq_false_iff_eq] at h
        exact UInt8.toNat_inj.1 (by show (rk v.k).toNat = 101; omega)
      have hp := HPO.out y (HM.out.ok rfl hk0)
      have hC : (C != 0) = false := by assumption
      rw [if_neg (by rw [HC.out]; simpa using hC)] at hp
      refine bodyPost_ret (v := .tuple #[.agg #[.int .i64 y.k, .int .u64 (wd y.S 0), .int .u64 (wd y.S 1), .int .u64 (wd y.S 2), .int .u64 (wd y.S 3), .string y.t, .slice y.a y.kids.length y.c], .int .i64 0, .int .i64 0]) (by simp [results, Tryd.results9, go_sem, hc]) rfl ?_
      refine ⟨K4.out.2.1.grown hg5 K4.out.2.1.size (fun k e => by have := Option.some.inj e; omega), y, by rw [hp], by rw [hp], ?_⟩
      exact (K4.out.2.2.2.gr hg5 (fun b hb _ => ⟨fun e => by have h1 := Option.some.inj e; have h2 := HX.out.2.2.2.2; omega, hb⟩)).inn
set_option maxRecDepth 20000 in
set_option maxHeartbeats 4000000 in
theorem readParses_any (s : ByteArray) (w : World) (hs : s.size ≤ 140737488355328) :
    Calls Tryd.prog 3 #[.string s] w fun r W' => r = .returned (.bool true) ∧ Below w.heap.size w W' := by
  have h1 := parse_any s w hs
  have h2 : ∀ W, _ := fun W => rparse_any s W hs
  unfold PPR at h1 h2
  generalize pread s.data.toList = G at *
  obtain ⟨rs, a, c⟩ := G
  simp only at h1 h2
  have HS : Hid (∀ (y z : Ex) (W : World), y.er = rs → z.er = rs → y.In W.heap.size W → z.In W.heap.size W → Calls Tryd.prog 10 #[.agg #[.int .i64 y.k, .int .u64 (wd y.S 0), .int .u64 (wd y.S 1), .int .u64 (wd y.S 2), .int .u64 (wd y.S 3), .string y.t, .slice y.a y.kids.length y.c], .agg #[.int .i64 z.k, .int .u64 (wd z.S 0), .int .u64 (wd z.S 1), .int .u64 (wd z.S 2), .int .u64 (wd z.S 3), .string z.t, .slice z.a z.kids.length z.c]] W fun r w' => r = .returned (.bool true) ∧ Below W.heap.size W w') := fun y z W hy hz hi hj => by
    have := same_any y z W hi hj
    rw [(same_er y z).2 (hy.trans hz.symm)] at this
    exact this
  go_enter Tryd.func3, Tryd.ntmps3
  go_wp2_with (first
    | (go_at_call 8; refine h1.mono ?_; clear h1; rintro e w1 ⟨hb1, y, rfl, hy, hyi⟩; have k1 : Hid (Below w.heap.size w (w1.alloc (.cells #[.int .i64 y.k, .int .u64 (wd y.S 0), .int .u64 (wd y.S 1), .int .u64 (wd y.S 2), .int .u64 (wd y.S 3), .string y.t, .slice y.a y.kids.length y.c] 27)) ∧ BoxN (w1.alloc (.cells y.cells 27)) w1.heap.size 27 y.cells ∧ y.In (w1.alloc (.cells y.cells 27)).heap.size (w1.alloc (.cells y.cells 27)) ∧ y.er = rs) := ⟨hb1.alloc hb1.size _, BoxN.new w1 27 _, hyi.grow ((Below.refl _ w1).alloc (Nat.le_refl _) _), hy⟩; rw [cells_eq] at k1; clear hb1 hy hyi)
    | (go_at_call 9; refine (h2 _).mono ?_; clear h2; rintro e w2 ⟨hb2, z, rfl, hz, hzi⟩; have hA2 := (Below.refl w2.heap.size w2).alloc (Nat.le_refl _) (.cells z.cells 27); have k2 : Hid (Below w.heap.size w (w2.alloc (.cells z.cells 27)) ∧ BoxN (w2.alloc (.cells z.cells 27)) w1.heap.size 27 #[.int .i64 y.k, .int .u64 (wd y.S 0), .int .u64 (wd y.S 1), .int .u64 (wd y.S 2), .int .u64 (wd y.S 3), .string y.t, .slice y.a y.kids.length y.c] ∧ BoxN (w2.alloc (.cells z.cells 27)) w2.heap.size 27 z.cells) := ⟨(k1.out.1.trans (hb2.mono k1.out.1.size)).alloc (k1.out.1.trans (hb2.mono k1.out.1.size)).size _, (k1.out.2.1.below hb2 k1.out.2.1.lt).alloc _, BoxN.new w2 27 _⟩; have hsm := HS.out y z (w2.alloc (.cells z.cells 27)) k1.out.2.2.2 hz ((k1.out.2.2.1.grow hb2).grow hA2) (hzi.grow hA2); have cy := k2.out.2.1.cell; have cz := k2.out.2.2.cell; rw [cells_eq] at cy cz hsm k2; clear hb2 hz hzi hA2 HS)
    | (go_at_call 10; refine hsm.mono ?_; clear hsm; rintro e w4 ⟨rfl, hb4⟩))
  go_ret
  exact ⟨by simp, k2.out.1.trans (hb4.mono k2.out.1.size)⟩
end Go.Proofs.YtbeohmcmphebhaaDoor
