import Derived.Test.YtbeohmcmphebhaaDoorXRTk
import Derived.Test.YtbeohmcmphebhaaDoorXParF
namespace Go.Proofs.YtbeohmcmphebhaaDoor
open Go.RowKit
set_option linter.unusedVariables false
set_option maxHeartbeats 1000000 in
theorem gathered_any (B : Nat) (k : Int) (g cap : Nat) (l : List Ex) (w : World) (hB : B ≤ w.heap.size) (hl : KL B w g cap l) (h1 : 1 ≤ l.length) :
    Calls Tryd.prog 37 #[.int .i64 k, .slice (some ⟨g, 0, none⟩) l.length cap] w fun e w' => Says B w' (gath k (l.map Ex.er)) e ∧ Below w.heap.size w w' := by
  have hb0 := (Below.refl w.heap.size w).alloc (Nat.le_refl _) (.cells z7 27)
  have bZ := BoxN.new w 27 z7
  have hmax := hl.2.1
  by_cases hone : l.length = 1
  · obtain ⟨x, rfl⟩ : ∃ x, l = [x] := by
      match l, hone with
      | [x], _ => exact ⟨x, rfl⟩
    have hx := hl.2.2 0 x rfl
    have hgl : g < w.heap.size := by
      obtain ⟨v, hv⟩ := cells7 x 0 (by omega)
      exact cell_lt ((hx.1 0 (by omega)).trans hv)
    have HX : Hid (∀ w', Below w.heap.size w w' → Says B w' (gath k ([x].map Ex.er)) (.returned (.agg #[.int .i64 x.k, .int .u64 (wd x.S 0), .int .u64 (wd x.S 1), .int .u64 (wd x.S 2), .int .u64 (wd x.S 3), .string x.t, .slice x.a x.kids.length x.c]))) :=
      fun w' hb => ⟨x, rfl, rfl, hx.2.below hb (fun _ h => h)⟩
    have hcx : ∀ m, m < 7 → (w.alloc (.cells z7 27)).cell? ⟨g, m, none⟩ = x.cells[m]? := fun m hm => by
      rw [hb0.cell (p := ⟨g, m, none⟩) hgl]
      have := hx.1 m hm
      simpa using this
    have c0 := hcx 0 (by omega)
    have c1 := hcx 1 (by omega)
    have c2 := hcx 2 (by omega)
    have c3 := hcx 3 (by omega)
    have c4 := hcx 4 (by omega)
    have c5 := hcx 5 (by omega)
    have c6 := hcx 6 (by omega)
    simp only [cells_eq] at c0 c1 c2 c3 c4 c5 c6
    simp only [List.getElem?_toArray, List.getElem?_cons_zero, List.getElem?_cons_succ, z7_eq] at c0 c1 c2 c3 c4 c5 c6
    clear hcx hx hl h1 hone hmax
    rw [show ([x] : List Ex).length = 1 from rfl]
    go_enter Tryd.func37, Tryd.ntmps37
    go_wp2_with (refine wpList_store_box rfl 27 _ _ rfl w.heap.size _ rfl rfl z7 bZ Tryd.info27 rfl (by simp [Value.oneCell']) ?_; intro w2 hx2 hg2; have hc := hx2.cell)
    have hbw2 : Below w.heap.size w w2 := hb0.grown hg2 hb0.size (fun k e => by cases e; omega)
    exact bodyPost_ret (by simp [results, Tryd.results37, go_sem, hc]) rfl ⟨HX.out w2 hbw2, hbw2⟩
  · have HX : Hid (∀ w', Below w.heap.size w w' → Says B w' (gath k (l.map Ex.er)) (.returned (.agg #[.int .i64 k, .int .u64 0, .int .u64 0, .int .u64 0, .int .u64 0, .string ⟨#[]⟩, .slice (some ⟨g, 0, none⟩) l.length cap]))) :=
      fun w' hb => ⟨.mk k 0#256 ⟨#[]⟩ (some ⟨g, 0, none⟩) cap l, by simp [Ex.k, Ex.S, Ex.t, Ex.a, Ex.c, Ex.kids, wd_zero], by
        rw [er_eq]
        unfold gath
        rw [if_neg (by simpa using hone)]
        rfl, (hl.ex k).below hb (fun _ h => h)⟩
    have g1 : ((l.length : Int) == 1) = false := by rw [beq_eq_false_iff_ne]; omega
    clear hl
    go_enter Tryd.func37, Tryd.ntmps37
    go_wp2_with (refine wpList_store_box rfl 27 _ _ rfl w.heap.size _ rfl rfl z7 bZ Tryd.info27 rfl (by simp [Value.oneCell']) ?_; intro w2 hx2 hg2; have hc := hx2.cell)
    have hbw2 : Below w.heap.size w w2 := hb0.grown hg2 hb0.size (fun k e => by cases e; omega)
    exact bodyPost_ret (by simp [results, Tryd.results37, go_sem, hc]) rfl ⟨HX.out w2 hbw2, hbw2⟩
end Go.Proofs.YtbeohmcmphebhaaDoor
namespace Go.Proofs.YtbeohmcmphebhaaDoor
open Go.RowKit
open Ex.Ou (OuL)
set_option linter.unusedVariables false
/-- Where a call of the other reader stands that has a result to lay. -/
structure Rq (n g : Nat) (L : List Tk) (w wr : World) : Prop where
  tw : TW n g L wr
  res : BoxN wr w.heap.size 27 z7
  bel : Below w.heap.size w wr
  gl : g < w.heap.size
theorem Rq.start {n g : Nat} {L : List Tk} {w : World} (h : TW n g L w) : Rq n g L w (w.alloc (.cells z7 27)) :=
  ⟨h.alloc _, BoxN.new w 27 z7, (Below.refl w.heap.size w).alloc (Nat.le_refl _) _, h.1⟩
theorem Rq.below {n g : Nat} {L : List Tk} {w wr w1 : World} (h : Rq n g L w wr) (hb : Below wr.heap.size wr w1) : Rq n g L w w1 :=
  ⟨h.tw.below hb, h.res.below hb h.res.lt, h.bel.trans (hb.mono h.bel.size), h.gl⟩
theorem Rq.alloc {n g : Nat} {L : List Tk} {w wr : World} (h : Rq n g L w wr) (o : Obj) : Rq n g L w (wr.alloc o) := h.below ((Below.refl _ wr).alloc (Nat.le_refl _) o)
theorem Rq.last {n g : Nat} {L : List Tk} {w wr w5 : World} (h : Rq n g L w wr) (hg : wr.grownBy w5 (some w.heap.size)) : Below w.heap.size w w5 :=
  h.bel.grown hg h.bel.size (fun k e => by cases e; omega)
/-- A block of the call's own was turned. -/
theorem Rq.own {n g : Nat} {L : List Tk} {w wr w1 : World} {row : Option Nat} (h : Rq n g L w wr) (hg : wr.grownBy w1 row) (hr : ∀ k, row = some k → w.heap.size < k) : Rq n g L w w1 := by
  have hgl := h.gl
  refine ⟨⟨Nat.lt_of_lt_of_le h.tw.1 hg.size, fun j t hj m hm => ?_⟩, h.res.kept hg (fun e => ?_), h.bel.grown hg h.bel.size (fun k e => by have := hr k e; omega), hgl⟩
  · rw [← h.tw.2 j t hj m hm]
    exact World.cell?_of_block (w := wr) (hg.block g h.tw.1 (fun e => by have := hr g e.symm; omega))
  · have := hr _ e.symm; omega
theorem TW.cells {n g : Nat} {L : List Tk} {w : World} (h : TW n g L w) {j : Nat} {t : Tk} (hj : L[j]? = some t) : ∀ m, m < 10 → w.cell? ⟨g, j * 10 + m, none⟩ = (tkcs n t)[m]? := h.2 j t hj
theorem TW.ex {n g : Nat} {L : List Tk} {w : World} (h : TW n g L w) {j : Nat} {t : Tk} (hj : L[j]? = some t) :
    w.cell? ⟨g, j * 10, none⟩ = some (.int .u8 ((rk t.k).toNat : Int)) ∧ w.cell? ⟨g, j * 10 + 2, none⟩ = some (.int .i64 t.e.k) ∧ w.cell? ⟨g, j * 10 + 3, none⟩ = some (.int .u64 (wd t.e.S 0)) ∧ w.cell? ⟨g, j * 10 + 4, none⟩ = some (.int .u64 (wd t.e.S 1)) ∧ w.cell? ⟨g, j * 10 + 5, none⟩ = some (.int .u64 (wd t.e.S 2)) ∧ w.cell? ⟨g, j * 10 + 6, none⟩ = some (.int .u64 (wd t.e.S 3)) ∧ w.cell? ⟨g, j * 10 + 7, none⟩ = some (.string t.e.t) ∧ w.cell? ⟨g, j * 10 + 8, none⟩ = some (.slice t.e.a t.e.kids.length t.e.c) :=
  ⟨h.cells hj 0 (by omega), h.cells hj 2 (by omega), h.cells hj 3 (by omega), h.cells hj 4 (by omega), h.cells hj 5 (by omega), h.cells hj 6 (by omega), h.cells hj 7 (by omega), h.cells hj 8 (by omega)⟩
theorem get_lt {L : List Tk} {j : Nat} {t : Tk} (h : L[j]? = some t) : j < L.length := (List.getElem?_eq_some_iff.1 h).1
theorem rk_eq {k c : UInt8} (m : Nat) (hm : m < 256) (h : rk k = UInt8.ofNat m) : (((rk k).toNat : Int) == (m : Int)) = true := eq_int h hm
theorem rk_ne {k : UInt8} {m : Nat} (hm : m < 256) (h : ¬ rk k = UInt8.ofNat m) : (((rk k).toNat : Int) == (m : Int)) = false := ne_int h hm
set_option maxRecDepth 20000 in
set_option maxHeartbeats 4000000 in
theorem rprim_none (T : ByteArray) (g cap : Nat) (L : List Tk) (hT : T.size ≤ 1000000) (hL : TL T L) (i : Nat) (t : Tk) (w : World) (hi : L[i]? = some t) (hw : TW T.size g L w) (h1 : ¬ t.k = 1) (h40 : ¬ t.k = 40) :
    Calls Tryd.prog 79 #[.slice (some ⟨g, 0, none⟩) L.length cap, .int .i64 i] w fun e w' => RdP L w.heap.size w' (.error t.s) e ∧ Below w.heap.size w w' := by
  have hkd := rk_fin t.k (hL.kd hi)
  have g1 : (((rk t.k).toNat : Int) == 110) = false := rk_ne (by decide) (by rw [show (UInt8.ofNat 110) = 110 from rfl, hkd.2.2.2.1]; exact h1)
  have g2 : (((rk t.k).toNat : Int) == 40) = false := rk_ne (by decide) (by rw [show (UInt8.ofNat 40) = 40 from rfl, hkd.2.2.2.2.1]; exact h40)
  have R0 : Hid (Rq T.size g L w (w.alloc (.cells z7 27))) := Rq.start hw
  have hil := get_lt hi
  have hln := hL.len
  have hc0 := R0.out.tw.kind hi
  have HI : Hid (L[i]? = some t) := hi
  have HO : Hid (∀ W, RdP L w.heap.size W (.error t.s) (.returned (.tuple #[.agg z7, .int .i64 i, .bool false]))) := fun W => ⟨nd 0 [], i, t, false, by
    have := nd0_val 0
    rw [val_eq] at this
    simp only [Value.agg.injEq] at this
    rw [this]; rfl, leaf_ou _ (by decide) rfl, hi, rfl, fun h => by cases h⟩
  rw [z7_eq] at HO hc0
  clear hkd hi hw h1 h40
  go_enter Tryd.func79, Tryd.ntmps79
  go_wp2_with (first
    | (refine wpList_store_box rfl 27 _ _ rfl w.heap.size _ rfl rfl z7 R0.out.res Tryd.info27 rfl (by simp [Value.oneCell']) ?_; intro w5 hx5 hg5; have hc := hx5.cell))
  exact bodyPost_ret (by simp [results, Tryd.results79, go_sem, hc]) rfl ⟨HO.out w5, R0.out.last hg5⟩
set_option maxRecDepth 20000 in
set_option maxHeartbeats 4000000 in
theorem rprim_leaf (T : ByteArray) (g cap : Nat) (L : List Tk) (hT : T.size ≤ 1000000) (hL : TL T L) (i : Nat) (t : Tk) (w : World) (hi : L[i]? = some t) (hw : TW T.size g L w) (h1 : t.k = 1) :
    Calls Tryd.prog 79 #[.slice (some ⟨g, 0, none⟩) L.length cap, .int .i64 i] w fun e w' => RdP L w.heap.size w' (thn (take t) fun u => .ok (t.e, u)) e ∧ Below w.heap.size w w' := by
  have g1 : (((rk t.k).toNat : Int) == 110) = true := eq_int (by rw [h1]; rfl) (by decide)
  have R0 : Hid (Rq T.size g L w (w.alloc (.cells z7 27))) := Rq.start hw
  have hil := get_lt hi
  have hln := hL.len
  obtain ⟨c0, c2, c3, c4, c5, c6, c7, c8⟩ := R0.out.tw.ex hi
  have HO : Hid (∀ W, RdP L w.heap.size W (thn (take t) fun u => .ok (t.e, u)) (.returned (.tuple #[.agg #[.int .i64 t.e.k, .int .u64 (wd t.e.S 0), .int .u64 (wd t.e.S 1), .int .u64 (wd t.e.S 2), .int .u64 (wd t.e.S 3), .string t.e.t, .slice t.e.a t.e.kids.length t.e.c], .int .i64 ((i : Int) + 1), .bool true]))) := fun W =>
    rp_take hL hi (by rw [h1]; decide) (by rw [h1]; decide) (by omega) rfl (hL.ou hT hi) (hL.bare hi)
  rw [z7_eq] at c0 c2 c3 c4 c5 c6 c7 c8
  generalize hE : (thn (take t) fun u => Except.ok (t.e, u)) = E at *
  clear hi hw h1 hE
  go_enter Tryd.func79, Tryd.ntmps79
  go_wp2_with (first
    | (refine wpList_store_box rfl 27 _ _ rfl w.heap.size _ rfl rfl z7 R0.out.res Tryd.info27 rfl (by simp [Value.oneCell']) ?_; intro w5 hx5 hg5; have hc := hx5.cell))
  exact bodyPost_ret (by simp [results, Tryd.results79, go_sem, hc]) rfl ⟨HO.out w5, R0.out.last hg5⟩
end Go.Proofs.YtbeohmcmphebhaaDoor
namespace Go.Proofs.YtbeohmcmphebhaaDoor
open Go.RowKit
open Ex.Ou (OuL)
set_option linter.unusedVariables false
theorem primP_40 (pre : Tk → Rs) (hp : Tells pre) (t : Tk) (h40 : t.k = 40) : primP pre t = (if (tok t.r).k = 41 then thn (take (tok t.r)) fun v => .ok (nd 1 [], v) else thn (altP pre (tok t.r)) fun x => if x.2.k = 41 then thn (take x.2) fun v => .ok (x.1, v) else .error x.2.s) := by
  unfold primP
  rw [if_neg (by rw [h40]; decide), if_pos h40]
  refine thn_take t _ fun h4 => ?_
  rw [if_neg (by rw [h4]; decide), altP_tells hp _ h4]
  rfl
/-- Behind alternatives that were read: a ) must come. -/
def closes (R : Rs) : Rs := thn R fun x => if x.2.k = 41 then thn (take x.2) fun v => .ok (x.1, v) else .error x.2.s
theorem z7_says (L : List Tk) (N : Nat) (W : World) (j : Nat) (u : Tk) (hj : L[j]? = some u) : RdP L N W (.error u.s) (.returned (.tuple #[.agg z7, .int .i64 j, .bool false])) :=
  ⟨nd 0 [], j, u, false, by
    have := nd0_val 0
    rw [val_eq] at this
    simp only [Value.agg.injEq] at this
    rw [this]; rfl, leaf_ou _ (by decide) rfl, hj, rfl, fun h => by cases h⟩
set_option maxRecDepth 20000 in
set_option maxHeartbeats 4000000 in
theorem rprim_empty (T : ByteArray) (g cap : Nat) (L : List Tk) (hT : T.size ≤ 1000000) (hL : TL T L) (i : Nat) (t : Tk) (w : World) (hi : L[i]? = some t) (hw : TW T.size g L w) (h40 : t.k = 40) (h41 : (tok t.r).k = 41) :
    Calls Tryd.prog 79 #[.slice (some ⟨g, 0, none⟩) L.length cap, .int .i64 i] w fun e w' => RdP L w.heap.size w' (thn (take (tok t.r)) fun v => .ok (nd 1 [], v)) e ∧ Below w.heap.size w w' := by
  have h0 : t.k ≠ 0 := by rw [h40]; decide
  have hj := (hL.next hi h0 (by rw [h40]; decide)).1
  have g1 : (((rk t.k).toNat : Int) == 110) = false := rk_ne (by decide) (by rw [h40]; decide)
  have g2 : (((rk t.k).toNat : Int) == 40) = true := eq_int (by rw [h40]; rfl) (by decide)
  generalize hU : tok t.r = u at *
  have g3 : (((rk u.k).toNat : Int) == 41) = true := eq_int (by rw [h41]; rfl) (by decide)
  have R0 : Hid (Rq T.size g L w (w.alloc (.cells z7 27))) := Rq.start hw
  have hil := get_lt hi
  have hjl := get_lt hj
  have hln := hL.len
  have c0 := R0.out.tw.kind hi
  have c1 := R0.out.tw.kind hj
  have HO : Hid (∀ W, RdP L w.heap.size W (thn (take u) fun v => .ok (nd 1 [], v)) (.returned (.tuple #[.agg #[.int .i64 1, .int .u64 0, .int .u64 0, .int .u64 0, .int .u64 0, .string ⟨#[]⟩, .slice none 0 0], .int .i64 ((i : Int) + 2), .bool true]))) := fun W =>
    rp_take hL hj (by rw [h41]; decide) (by rw [h41]; decide) (k := (i : Int) + 2) (by omega) (y := nd 1 []) (by
      have := nd0_val 1
      rw [val_eq] at this
      simp only [Value.agg.injEq] at this
      rw [this]) (leaf_ou _ (by decide) rfl) (bare_one 1)
  rw [z7_eq] at c0 c1
  generalize hE : (thn (take u) fun v => Except.ok (nd 1 [], v)) = E at *
  clear hi hj hw h40 h41 hU hE h0
  go_enter Tryd.func79, Tryd.ntmps79
  go_wp2_with (first
    | (refine wpList_store_box rfl 27 _ _ rfl w.heap.size _ rfl rfl z7 R0.out.res Tryd.info27 rfl (by simp [Value.oneCell']) ?_; intro w5 hx5 hg5; have hc := hx5.cell))
  exact bodyPost_ret (by simp [results, Tryd.results79, go_sem, hc]) rfl ⟨HO.out w5, R0.out.last hg5⟩
theorem closes_no {A : Rs} {y : Ex} {v : Tk} {b : Bool} (hm : match A with | .ok x => b = true ∧ y.er = x.1 ∧ v = x.2 | .error s => v.s = s ∧ (b = true → v.k = 4)) (h : b = false ∨ ¬ v.k = 41) : closes A = .error v.s := by
  cases A with
  | error s => rw [hm.1]; rfl
  | ok x =>
    rcases h with h | h
    · rw [hm.1] at h; cases h
    · unfold closes
      rw [thn_ok, ← hm.2.2, if_neg h]
theorem closes_ok {A : Rs} {y : Ex} {v : Tk} (hm : match A with | .ok x => true = true ∧ y.er = x.1 ∧ v = x.2 | .error s => v.s = s ∧ (true = true → v.k = 4)) (h : v.k = 41) : closes A = thn (take v) fun u => .ok (y.er, u) := by
  cases A with
  | error s => have := hm.2 rfl; rw [h] at this; exact absurd this (by decide)
  | ok x => unfold closes; rw [thn_ok, ← hm.2.2, if_pos h, hm.2.1]
theorem call_ou {w w3 w5 : World} {y : Ex} (h : y.Ou ((w.alloc (.cells z7 27)).heap.size ≤ ·) w3) {o : Obj} (hg : (w3.alloc o).grownBy w5 (some w.heap.size)) : y.Ou (w.heap.size ≤ ·) w5 :=
  h.gr (grown_alloc _ hg) (fun b hb _ => ⟨fun e => by cases e; simp at hb; omega, by simp at hb; omega⟩)
set_option maxRecDepth 20000 in
set_option maxHeartbeats 4000000 in
theorem rprim_brack (T : ByteArray) (g cap n : Nat) (L : List Tk) (pre : Tk → Rs) (hT : T.size ≤ 1000000) (hL : TL T L) (hd : RDoes T g cap L 17 n (altP pre)) (i : Nat) (t : Tk) (w : World) (hi : L[i]? = some t) (hn : t.s.length ≤ n) (hw : TW T.size g L w) (h40 : t.k = 40) (h41 : ¬ (tok t.r).k = 41) :
    Calls Tryd.prog 79 #[.slice (some ⟨g, 0, none⟩) L.length cap, .int .i64 i] w fun e w' => RdP L w.heap.size w' (closes (altP pre (tok t.r))) e ∧ Below w.heap.size w w' := by
  have h0 : t.k ≠ 0 := by rw [h40]; decide
  obtain ⟨hj, hlt⟩ := hL.next hi h0 (by rw [h40]; decide)
  have g1 : (((rk t.k).toNat : Int) == 110) = false := rk_ne (by decide) (by rw [h40]; decide)
  have g2 : (((rk t.k).toNat : Int) == 40) = true := eq_int (by rw [h40]; rfl) (by decide)
  generalize hU : tok t.r = u at *
  have hkd := rk_fin u.k (hL.kd hj)
  have g3 : (((rk u.k).toNat : Int) == 41) = false := rk_ne (by decide) (by rw [show (UInt8.ofNat 41) = 41 from rfl, hkd.2.2.2.2.2.1]; exact h41)
  have R0 : Hid (Rq T.size g L w (w.alloc (.cells z7 27))) := Rq.start hw
  have hal := hd (i + 1) u (w.alloc (.cells z7 27)) hj (by omega) R0.out.tw
  have hil := get_lt hi
  have hjl := get_lt hj
  have hln := hL.len
  have c0 := R0.out.tw.kind hi
  have c1 := R0.out.tw.kind hj
  have HL : Hid (TL T L) := hL
  generalize altP pre u = A at *
  unfold RdP at hal
  rw [z7_eq] at c0 c1 hal
  rw [show ((i + 1 : Nat) : Int) = (i : Int) + 1 from by omega] at hal
  clear hkd hi hj hw h40 h41 hU h0 hlt hd hL
  go_enter Tryd.func79, Tryd.ntmps79
  go_wp2_with (first
    | (go_at_call 17; refine hal.mono ?_; clear hal; rintro e w3 ⟨⟨y, j, v, b, rfl, hyo, hjv, hm⟩, hb3⟩; rw [← z7_eq] at hyo hb3; have HYO : Hid _ := hyo; have HM : Hid _ := hm; have HV : Hid _ := hjv; have R3 : Hid (Rq T.size g L w (w3.alloc (.cells #[.int .i64 y.k, .int .u64 (wd y.S 0), .int .u64 (wd y.S 1), .int .u64 (wd y.S 2), .int .u64 (wd y.S 3), .string y.t, .slice y.a y.kids.length y.c] 27))) := (R0.out.below hb3).alloc _; have bE : Hid (BoxN (w3.alloc (.cells y.cells 27)) w3.heap.size 27 y.cells) := BoxN.new w3 27 y.cells; have ce := bE.out.cell; rw [cells_eq] at ce bE; have HE : Hid (w.heap.size < w3.heap.size) := (R0.out.below hb3).res.lt; have c3 := R3.out.tw.kind hjv; have hjvl := get_lt hjv; clear hyo hm hjv hb3)
    | (refine wpList_store_box rfl 27 _ _ rfl w.heap.size _ rfl rfl z7 R3.out.res Tryd.info27 rfl (by simp [Value.oneCell']) ?_; intro w5 hx5 hg5; have hc := hx5.cell))
  all_goals
    have HN : ∀ W, (b = false ∨ (((rk v.k).toNat : Int) != 41) = true) → RdP L w.heap.size W (closes A) (.returned (.tuple #[.agg z7, .int .i64 j, .bool false])) := fun W h => by
      rw [closes_no HM.out (h.imp id (fun h h41 => by rw [h41] at h; revert h; decide))]
      exact z7_says L _ W j v HV.out
    have HY : b = true → (((rk v.k).toNat : Int) != 41) = false → y.Ou (w.heap.size ≤ ·) w5 → RdP L w.heap.size w5 (closes A) (.returned (.tuple #[.agg #[.int .i64 y.k, .int .u64 (wd y.S 0), .int .u64 (wd y.S 1), .int .u64 (wd y.S 2), .int .u64 (wd y.S 3), .string y.t, .slice y.a y.kids.length y.c], .int .i64 ((j : Int) + 1), .bool true])) := fun hb h ho => by
      have h41 : v.k = 41 := by
        rw [← (rk_fin v.k (HL.out.kd HV.out)).2.2.2.2.2.1]
        rw [bne_eq_false_iff_eq] at h
        exact UInt8.toNat_inj.1 (by show (rk v.k).toNat = 41; omega)
      subst hb
      rw [closes_ok HM.out h41]
      exact rp_take HL.out HV.out (by rw [h41]; decide) (by rw [h41]; decide) (k := (j : Int) + 1) (by omega) rfl ho rfl
    rw [z7_eq] at HN
    rename_i h
    first
      | exact bodyPost_ret (by simp [results, Tryd.results79, go_sem, hc]) rfl ⟨HN w5 (.inl (by simpa using h)), R3.out.last hg5⟩
      | exact bodyPost_ret (by simp [results, Tryd.results79, go_sem, hc]) rfl ⟨HN w5 (.inr h), R3.out.last hg5⟩
      | exact bodyPost_ret (by simp [results, Tryd.results79, go_sem, hc]) rfl ⟨HY (by assumption) h (call_ou HYO.out hg5), R3.out.last hg5⟩
theorem rprim_does (T : ByteArray) (g cap n : Nat) (L : List Tk) (pre : Tk → Rs) (hT : T.size ≤ 1000000) (hL : TL T L) (hp : Tells pre) (hd : RDoes T g cap L 17 n (altP pre)) : RDoes T g cap L 79 (n + 1) (primP pre) := by
  intro i t w hi hn hw
  by_cases h1 : t.k = 1
  · have := rprim_leaf T g cap L hT hL i t w hi hw h1
    unfold primP
    rw [if_pos h1]
    exact this
  by_cases h40 : t.k = 40
  · rw [primP_40 pre hp t h40]
    by_cases h41 : (tok t.r).k = 41
    · rw [if_pos h41]; exact rprim_empty T g cap L hT hL i t w hi hw h40 h41
    · rw [if_neg h41]; exact rprim_brack T g cap n L pre hT hL hd i t w hi (by omega) hw h40 h41
  · have := rprim_none T g cap L hT hL i t w hi hw h1 h40
    unfold primP
    rw [if_neg h1, if_neg h40]
    exact this
end Go.Proofs.YtbeohmcmphebhaaDoor
