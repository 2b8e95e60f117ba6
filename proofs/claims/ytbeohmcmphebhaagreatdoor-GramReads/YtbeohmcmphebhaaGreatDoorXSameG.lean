import Derived.Test.YtbeohmcmphebhaaGreatDoorXParF
import Derived.Test.YtbeohmcmphebhaaGreatDoorXRsame
import Derived.Test.YtbeohmcmphebhaaGreatDoorXOver
namespace Go.Proofs.YtbeohmcmphebhaaGreatDoor
open Go.RowKit
set_option linter.unusedVariables false
set_option maxHeartbeats 1000000 in
theorem gathered_any (B : Nat) (k : Int) (g cap : Nat) (l : List Ex) (w : World) (hB : B ≤ w.heap.size) (hl : KL B w g cap l) (h1 : 1 ≤ l.length) :
    Calls Tryz.prog 34 #[.int .i64 k, .slice (some ⟨g, 0, none⟩) l.length cap] w fun e w' => Says B w' (gath k (l.map Ex.er)) e ∧ Below w.heap.size w w' := by
  have hb0 := (Below.refl w.heap.size w).alloc (Nat.le_refl _) (.cells z7 43)
  have bZ := BoxN.new w 43 z7
  have hmax := hl.2.1
  by_cases hone : l.length = 1
  · obtain ⟨x, rfl⟩ : ∃ x, l = [x] := by
      match l, hone with
      | [x], _ => exact ⟨x, rfl⟩
    have hx := hl.2.2 0 x rfl
    have hgl : g < w.heap.size := by
      obtain ⟨v, hv⟩ := cells7 x 0 (by omega)
      exact cell_lt ((hx.1 0 (by omega)).trans hv)
    have HX : Hid (∀ w', Below w.heap.size w w' → Says B w' (gath k ([x].map Ex.er)) (.returned (.agg #[.int .i64 x.k, .int .u64 (wd x.S 0), .int .u64 (wd x.S 1), .int .u64 (wd x.S 2), .int .u64 (wd x.S 3), .string x.t, .slice x.a x.kids.length x.c]))) :=
      fun w' hb => ⟨x, rfl, rfl, hx.2.below hb (fun _ h => h)⟩
    have hcx : ∀ m, m < 7 → (w.alloc (.cells z7 43)).cell? ⟨g, m, none⟩ = x.cells[m]? := fun m hm => by
      rw [hb0.cell (p := ⟨g, m, none⟩) hgl]
      have := hx.1 m hm
      simpa using this
    have c0 := hcx 0 (by omega)
    have c1 := hcx 1 (by omega)
    have c2 := hcx 2 (by omega)
    have c3 := hcx 3 (by omega)
    have c4 := hcx 4 (by omega)
    have c5 := hcx 5 (by omega)
    have c6 := hcx 6 (by omega)
    simp only [cells_eq] at c0 c1 c2 c3 c4 c5 c6
    simp only [List.getElem?_toArray, List.getElem?_cons_zero, List.getElem?_cons_succ, z7_eq] at c0 c1 c2 c3 c4 c5 c6
    clear hcx hx hl h1 hone hmax
    rw [show ([x] : List Ex).length = 1 from rfl]
    go_enter Tryz.func34, Tryz.ntmps34
    go_wp2_with (refine wpList_store_box rfl 43 _ _ rfl w.heap.size _ rfl rfl z7 bZ Tryz.info43 rfl (by simp [Value.oneCell']) ?_; intro w2 hx2 hg2; have hc := hx2.cell)
    have hbw2 : Below w.heap.size w w2 := hb0.grown hg2 hb0.size (fun k e => by cases e; omega)
    exact bodyPost_ret (by simp [results, Tryz.results34, go_sem, hc]) rfl ⟨HX.out w2 hbw2, hbw2⟩
  · have HX : Hid (∀ w', Below w.heap.size w w' → Says B w' (gath k (l.map Ex.er)) (.returned (.agg #[.int .i64 k, .int .u64 0, .int .u64 0, .int .u64 0, .int .u64 0, .string ⟨#[]⟩, .slice (some ⟨g, 0, none⟩) l.length cap]))) :=
      fun w' hb => ⟨.mk k 0#256 ⟨#[]⟩ (some ⟨g, 0, none⟩) cap l, by simp [Ex.k, Ex.S, Ex.t, Ex.a, Ex.c, Ex.kids, wd_zero], by
        rw [er_eq]
        unfold gath
        rw [if_neg (by simpa using hone)]
        rfl, (hl.ex k).below hb (fun _ h => h)⟩
    have g1 : ((l.length : Int) == 1) = false := by rw [beq_eq_false_iff_ne]; omega
    clear hl
    go_enter Tryz.func34, Tryz.ntmps34
    go_wp2_with (refine wpList_store_box rfl 43 _ _ rfl w.heap.size _ rfl rfl z7 bZ Tryz.info43 rfl (by simp [Value.oneCell']) ?_; intro w2 hx2 hg2; have hc := hx2.cell)
    have hbw2 : Below w.heap.size w w2 := hb0.grown hg2 hb0.size (fun k e => by cases e; omega)
    exact bodyPost_ret (by simp [results, Tryz.results34, go_sem, hc]) rfl ⟨HX.out w2 hbw2, hbw2⟩
end Go.Proofs.YtbeohmcmphebhaaGreatDoor
namespace Go.Proofs.YtbeohmcmphebhaaGreatDoor
open Go.RowKit
open Ex.Ou (OuL)
set_option linter.unusedVariables false
/-- Where a call of the other reader stands that has a result to lay. -/
structure Rq (n g : Nat) (L : List Tk) (w wr : World) : Prop where
  tw : TW n g L wr
  res : BoxN wr w.heap.size 43 z7
  bel : Below w.heap.size w wr
  gl : g < w.heap.size
theorem Rq.start {n g : Nat} {L : List Tk} {w : World} (h : TW n g L w) : Rq n g L w (w.alloc (.cells z7 43)) :=
  ⟨h.alloc _, BoxN.new w 43 z7, (Below.refl w.heap.size w).alloc (Nat.le_refl _) _, h.1⟩
theorem Rq.below {n g : Nat} {L : List Tk} {w wr w1 : World} (h : Rq n g L w wr) (hb : Below wr.heap.size wr w1) : Rq n g L w w1 :=
  ⟨h.tw.below hb, h.res.below hb h.res.lt, h.bel.trans (hb.mono h.bel.size), h.gl⟩
theorem Rq.alloc {n g : Nat} {L : List Tk} {w wr : World} (h : Rq n g L w wr) (o : Obj) : Rq n g L w (wr.alloc o) := h.below ((Below.refl _ wr).alloc (Nat.le_refl _) o)
theorem Rq.last {n g : Nat} {L : List Tk} {w wr w5 : World} (h : Rq n g L w wr) (hg : wr.grownBy w5 (some w.heap.size)) : Below w.heap.size w w5 :=
  h.bel.grown hg h.bel.size (fun k e => by cases e; omega)
/-- A block of the call's own was turned. -/
theorem Rq.own {n g : Nat} {L : List Tk} {w wr w1 : World} {row : Option Nat} (h : Rq n g L w wr) (hg : wr.grownBy w1 row) (hr : ∀ k, row = some k → w.heap.size < k) : Rq n g L w w1 := by
  have hgl := h.gl
  refine ⟨⟨Nat.lt_of_lt_of_le h.tw.1 hg.size, fun j t hj m hm => ?_⟩, h.res.kept hg (fun e => ?_), h.bel.grown hg h.bel.size (fun k e => by have := hr k e; omega), hgl⟩
  · rw [← h.tw.2 j t hj m hm]
    exact World.cell?_of_block (w := wr) (hg.block g h.tw.1 (fun e => by have := hr g e.symm; omega))
  · have := hr _ e.symm; omega
theorem TW.cells {n g : Nat} {L : List Tk} {w : World} (h : TW n g L w) {j : Nat} {t : Tk} (hj : L[j]? = some t) : ∀ m, m < 10 → w.cell? ⟨g, j * 10 + m, none⟩ = (tkcs n t)[m]? := h.2 j t hj
theorem TW.ex {n g : Nat} {L : List Tk} {w : World} (h : TW n g L w) {j : Nat} {t : Tk} (hj : L[j]? = some t) :
    w.cell? ⟨g, j * 10, none⟩ = some (.int .u8 ((rk t.k).toNat : Int)) ∧ w.cell? ⟨g, j * 10 + 2, none⟩ = some (.int .i64 t.e.k) ∧ w.cell? ⟨g, j * 10 + 3, none⟩ = some (.int .u64 (wd t.e.S 0)) ∧ w.cell? ⟨g, j * 10 + 4, none⟩ = some (.int .u64 (wd t.e.S 1)) ∧ w.cell? ⟨g, j * 10 + 5, none⟩ = some (.int .u64 (wd t.e.S 2)) ∧ w.cell? ⟨g, j * 10 + 6, none⟩ = some (.int .u64 (wd t.e.S 3)) ∧ w.cell? ⟨g, j * 10 + 7, none⟩ = some (.string t.e.t) ∧ w.cell? ⟨g, j * 10 + 8, none⟩ = some (.slice t.e.a t.e.kids.length t.e.c) :=
  ⟨h.cells hj 0 (by omega), h.cells hj 2 (by omega), h.cells hj 3 (by omega), h.cells hj 4 (by omega), h.cells hj 5 (by omega), h.cells hj 6 (by omega), h.cells hj 7 (by omega), h.cells hj 8 (by omega)⟩
theorem get_lt {L : List Tk} {j : Nat} {t : Tk} (h : L[j]? = some t) : j < L.length := (List.getElem?_eq_some_iff.1 h).1
theorem rk_eq {k c : UInt8} (m : Nat) (hm : m < 256) (h : rk k = UInt8.ofNat m) : (((rk k).toNat : Int) == (m : Int)) = true := eq_int h hm
theorem rk_ne {k : UInt8} {m : Nat} (hm : m < 256) (h : ¬ rk k = UInt8.ofNat m) : (((rk k).toNat : Int) == (m : Int)) = false := ne_int h hm
set_option maxRecDepth 20000 in
set_option maxHeartbeats 4000000 in
theorem rprim_none (T : ByteArray) (g cap : Nat) (L : List Tk) (hT : T.size ≤ 1000000) (hL : TL T L) (i : Nat) (t : Tk) (w : World) (hi : L[i]? = some t) (hw : TW T.size g L w) (h1 : ¬ t.k = 1) (h40 : ¬ t.k = 40) :
    Calls Tryz.prog 80 #[.slice (some ⟨g, 0, none⟩) L.length cap, .int .i64 i] w fun e w' => RdP L w.heap.size w' (.error t.s) e ∧ Below w.heap.size w w' := by
  have hkd := rk_fin t.k (hL.kd hi)
  have g1 : (((rk t.k).toNat : Int) == 110) = false := rk_ne (by decide) (by rw [show (UInt8.ofNat 110) = 110 from rfl, hkd.2.2.2.1]; exact h1)
  have g2 : (((rk t.k).toNat : Int) == 40) = false := rk_ne (by decide) (by rw [show (UInt8.ofNat 40) = 40 from rfl, hkd.2.2.2.2.1]; exact h40)
  have R0 : Hid (Rq T.size g L w (w.alloc (.cells z7 43))) := Rq.start hw
  have hil := get_lt hi
  have hln := hL.len
  have hc0 := R0.out.tw.kind hi
  have HI : Hid (L[i]? = some t) := hi
  have HO : Hid (∀ W, RdP L w.heap.size W (.error t.s) (.returned (.tuple #[.agg z7, .int .i64 i, .bool false]))) := fun W => ⟨nd 0 [], i, t, false, by
    have := nd0_val 0
    rw [val_eq] at this
    simp only [Value.agg.injEq] at this
    rw [this]; rfl, leaf_ou _ (by decide) rfl, hi, rfl, fun h => by cases h⟩
  rw [z7_eq] at HO hc0
  clear hkd hi hw h1 h40
  go_enter Tryz.func80, Tryz.ntmps80
  go_wp2_with (first
    | (refine wpList_store_box rfl 43 _ _ rfl w.heap.size _ rfl rfl z7 R0.out.res Tryz.info43 rfl (by simp [Value.oneCell']) ?_; intro w5 hx5 hg5; have hc := hx5.cell))
  exact bodyPost_ret (by simp [results, Tryz.results80, go_sem, hc]) rfl ⟨HO.out w5, R0.out.last hg5⟩
set_option maxRecDepth 20000 in
set_option maxHeartbeats 4000000 in
theorem rprim_leaf (T : ByteArray) (g cap : Nat) (L : List Tk) (hT : T.size ≤ 1000000) (hL : TL T L) (i : Nat) (t : Tk) (w : World) (hi : L[i]? = some t) (hw : TW T.size g L w) (h1 : t.k = 1) :
    Calls Tryz.prog 80 #[.slice (some ⟨g, 0, none⟩) L.length cap, .int .i64 i] w fun e w' => RdP L w.heap.size w' (thn (take t) fun u => .ok (t.e, u)) e ∧ Below w.heap.size w w' := by
  have g1 : (((rk t.k).toNat : Int) == 110) = true := eq_int (by rw [h1]; rfl) (by decide)
  have R0 : Hid (Rq T.size g L w (w.alloc (.cells z7 43))) := Rq.start hw
  have hil := get_lt hi
  have hln := hL.len
  obtain ⟨c0, c2, c3, c4, c5, c6, c7, c8⟩ := R0.out.tw.ex hi
  have HO : Hid (∀ W, RdP L w.heap.size W (thn (take t) fun u => .ok (t.e, u)) (.returned (.tuple #[.agg #[.int .i64 t.e.k, .int .u64 (wd t.e.S 0), .int .u64 (wd t.e.S 1), .int .u64 (wd t.e.S 2), .int .u64 (wd t.e.S 3), .string t.e.t, .slice t.e.a t.e.kids.length t.e.c], .int .i64 ((i : Int) + 1), .bool true]))) := fun W =>
    rp_take hL hi (by rw [h1]; decide) (by rw [h1]; decide) (by omega) rfl (hL.ou hT hi) (hL.bare hi)
  rw [z7_eq] at c0 c2 c3 c4 c5 c6 c7 c8
  generalize hE : (thn (take t) fun u => Except.ok (t.e, u)) = E at *
  clear hi hw h1 hE
  go_enter Tryz.func80, Tryz.ntmps80
  go_wp2_with (first
    | (refine wpList_store_box rfl 43 _ _ rfl w.heap.size _ rfl rfl z7 R0.out.res Tryz.info43 rfl (by simp [Value.oneCell']) ?_; intro w5 hx5 hg5; have hc := hx5.cell))
  exact bodyPost_ret (by simp [results, Tryz.results80, go_sem, hc]) rfl ⟨HO.out w5, R0.out.last hg5⟩
end Go.Proofs.YtbeohmcmphebhaaGreatDoor
namespace Go.Proofs.YtbeohmcmphebhaaGreatDoor
open Go.RowKit
open Ex.Ou (OuL)
set_option linter.unusedVariables false
theorem below_grown {w w' : World} (h : Below w.heap.size w w') : w.grownBy w' none := ⟨h.os, h.tape, h.output, h.size, fun k hk _ => h.block k hk⟩
/-- Kids that a loop gathers. -/
structure Kq (w wr : World) (v : Value) (l : List Ex) : Prop where
  own : wr.ownsRow (w.heap.size + 1) 43 7 v l.length (kcells l)
  ou : ∀ x ∈ l, x.Ou (fun b => w.heap.size + 1 ≤ b ∧ v.ownBlock ≠ some b) wr
theorem Kq.start (w wr : World) : Kq w wr (.slice none 0 0) [] := ⟨World.ownsRow_nil _ _ _ _, fun x hx => by cases hx⟩
theorem Kq.below {w wr w1 : World} {v : Value} {l : List Ex} (h : Kq w wr v l) (hb : Below wr.heap.size wr w1) : Kq w w1 v l :=
  ⟨h.own.kept (below_grown hb) (by cases v.ownBlock <;> simp), fun x hx => (h.ou x hx).below hb (fun _ h => h)⟩
theorem Kq.blk {w wr : World} {v : Value} {l : List Ex} (h : Kq w wr v l) (k : Nat) (hk : v.ownBlock = some k) : w.heap.size + 1 ≤ k ∧ k < wr.heap.size := h.own.lt k hk
theorem Kq.push {w w1 w3 : World} {g3 cap3 N : Nat} {v : Value} {l : List Ex} {y : Ex} (h : Kq w w1 v l) (hN : ∀ k, v.ownBlock = some k → k < N) (hy : y.Ou (N ≤ ·) w1) (hwN : w.heap.size + 1 ≤ N)
    (hown : w3.ownsRow (w.heap.size + 1) 43 7 (.slice (some ⟨g3, 0, none⟩) (l.length + 1) cap3) (l.length + 1) (kcells l ++ y.cells.toList)) (hg : (w1.alloc (.cells y.cells 43)).grownBy w3 v.ownBlock) (h3 : v.ownBlock = some g3 ∨ g3 = w1.heap.size + 1) :
    Kq w w3 (.slice (some ⟨g3, 0, none⟩) (l.length + 1) cap3) (l ++ [y]) := by
  have hg0 : w1.grownBy w3 v.ownBlock := grown_alloc _ hg
  refine ⟨by rw [kcells_app]; simpa using hown, fun x hx => ?_⟩
  have ho : (Value.slice (some ⟨g3, 0, none⟩) (l.length + 1) cap3).ownBlock = some g3 := rfl
  rw [ho]
  rcases List.mem_append.1 hx with hx | hx
  · refine (h.ou x hx).gr hg0 (fun b hb hlt => ⟨hb.2.symm, hb.1, ?_⟩)
    rcases h3 with h3 | rfl
    · rw [← h3]; exact hb.2
    · intro e; cases e; omega
  · rw [List.mem_singleton.1 hx]
    refine hy.gr hg0 (fun b hb hlt => ⟨fun e => by have := hN b e.symm; omega, by omega, ?_⟩)
    rcases h3 with h3 | rfl
    · intro e; cases e; have := hN _ h3; omega
    · intro e; cases e; omega
theorem Kq.kl {w wr : World} {g cap : Nat} {l : List Ex} (h : Kq w wr (.slice (some ⟨g, 0, none⟩) l.length cap) l) (hl : l.length ≤ 2000000) : KL (w.heap.size + 1) wr g cap l := by
  have ho : (Value.slice (some ⟨g, 0, none⟩) l.length cap).ownBlock = some g := rfl
  refine ⟨(h.blk g ho).1, hl, fun j x hx => ⟨fun m hm => ?_, (h.ou x (List.mem_of_getElem? hx)).gr (gr_refl 0 wr) (fun b hb _ => ⟨?_, hb.1⟩)⟩⟩
  · obtain ⟨v, hv⟩ := cells7 x m hm
    have h1 := kcells_at l j m x hx hm
    rw [hv] at h1 ⊢
    have := World.ownsRow.cells h.own (g := g) rfl _ _ h1
    rwa [Addr.add_lit, Nat.zero_add] at this
  · intro e; cases e; omega
theorem Kq.kl' {w wr : World} {g cap n : Nat} {l : List Ex} (h : Kq w wr (.slice (some ⟨g, 0, none⟩) n cap) l) (hn : n = l.length) (hl : l.length ≤ 2000000) : KL (w.heap.size + 1) wr g cap l := by subst hn; exact h.kl hl
theorem wpList_app_kq {ops : Array Oper} {rest : List Oper} {o : Oper} {a : Act} {Q : Exit → Act → World → Prop} (hgd : o.guard = none) (s x : Operand)
    (ho : o.op = .call { callee := .builtin .append, args := #[s, x], argTypes := #[41, 41] }) {n g N : Nat} {L : List Tk} {w w1 : World} {v : Value} {l : List Ex} {y : Ex} (h : Kq w w1 v l) (hq : Rq n g L w w1)
    (hs : a.eval s = v) {H : Nat} (hH : w1.heap.size = H) (hx : a.eval x = .slice (some ⟨H, 0, none⟩) 1 1) (hN : ∀ k, v.ownBlock = some k → k < N) (hwN : w.heap.size + 1 ≤ N) (hy : y.Ou (N ≤ ·) w1) (hl : l.length ≤ 2000000)
    (hK : ∀ g3 cap3 w3, Kq w w3 (.slice (some ⟨g3, 0, none⟩) (l.length + 1) cap3) (l ++ [y]) → Rq n g L w w3 → wpList Tryz.prog ops Q rest (a.put o.dst (.slice (some ⟨g3, 0, none⟩) (l.length + 1) cap3)) w3) :
    wpList Tryz.prog ops Q (o :: rest) a (w1.alloc (.cells #[.int .i64 y.k, .int .u64 (wd y.S 0), .int .u64 (wd y.S 1), .int .u64 (wd y.S 2), .int .u64 (wd y.S 3), .string y.t, .slice y.a y.kids.length y.c] 43)) := by
  obtain ⟨i0, hi, hz0, hz1, hz2⟩ := info_parts Tryz.infoX
  have hres := hq.res.lt
  have h1 := h.own.kept (World.grownBy_alloc w1 (.cells y.cells 43) none) (by cases v.ownBlock <;> simp)
  have hnews := World.news_of_block (World.alloc_heap_new w1 (.cells y.cells 43))
  subst hH
  refine wpList_append_lies _ hgd s x 41 ho (w.heap.size + 1) 43 i0 (.agg z7) 7 80 Tryz.underlying41 hi hz0 hz1 hz2 rfl (by decide) v l.length (kcells l) hs h1 ⟨w1.heap.size, 0, none⟩ 1 1 y.cells.toList hx rfl hnews (ex_one y) (by omega) (by unfold maxLen; omega) (by omega) (by simp; omega) (w1.heap.size + 1) (by simp) ?_
  intro g3 cap3 w3 hown hgr hor _
  exact hK g3 cap3 w3 (h.push hN hy hwN hown hgr hor) ((hq.alloc _).own hgr (fun k hk => by have := (h.blk k hk).1; omega))
end Go.Proofs.YtbeohmcmphebhaaGreatDoor
namespace Go.Proofs.YtbeohmcmphebhaaGreatDoor
open Go.RowKit
set_option linter.unusedVariables false
theorem RuIn.below2 {n : Nat} {A B : World} {a : Option Addr} {j : Nat} {r : ByteArray × Ex} (h : RuIn n A a j r) (hn : n ≤ A.heap.size) (hb : Below A.heap.size A B) : RuIn n B a j r := by
  obtain ⟨⟨b, o, ha, hlt, hc⟩, h1, h2⟩ := h
  exact ⟨⟨b, o, ha, hlt, fun m hm => (hb.cell (p := ⟨b, o + j * 8 + m, none⟩) (by show b < _; omega)).trans (hc m hm)⟩, h1, h2.below (hb.mono hn)⟩
theorem er2_same {a b : Rl} (h : er2 a = er2 b) : a.1 = b.1 ∧ a.2.same b.2 = true := by
  unfold er2 at h
  have h1 := congrArg Prod.fst h
  have h2 := congrArg Prod.snd h
  exact ⟨h1, (same_er _ _).2 h2⟩
set_option maxRecDepth 20000 in
set_option maxHeartbeats 4000000 in
theorem sameR_any (a b : Rl) (h : er2 a = er2 b) (w : World) (ha : a.2.In w.heap.size w) (hb : b.2.In w.heap.size w) :
    Calls Tryz.prog 16 #[.agg (rcell a).toArray, .agg (rcell b).toArray] w fun r w' => r = .returned (.bool true) ∧ Below w.heap.size w w' := by
  obtain ⟨h1, h2⟩ := er2_same h
  have hA := ((Below.refl w.heap.size w).alloc (Nat.le_refl _) (.cells (rcell a).toArray 49)).alloc (by simp) (.cells (rcell b).toArray 49)
  have hsm := same_any a.2 b.2 _ (ha.grow hA) (hb.grow hA)
  rw [h2] at hsm
  have HB : Hid (∀ {W}, Below ((w.alloc (.cells (rcell a).toArray 49)).alloc (.cells (rcell b).toArray 49)).heap.size ((w.alloc (.cells (rcell a).toArray 49)).alloc (.cells (rcell b).toArray 49)) W → Below w.heap.size w W) := fun hb => hA.trans (hb.mono hA.size)
  have g1 : (a.1.toList == b.1.toList) = true := by rw [h1]; simp
  rw [val_eq, val_eq] at hsm
  rw [rcell_eq, rcell_eq] at hsm HB ⊢
  clear h h1 h2 hA ha hb
  go_enter Tryz.func16, Tryz.ntmps16
  go_wp2_with (go_at_call 17; refine hsm.mono ?_; rintro e w1 ⟨rfl, hb1⟩)
  go_ret
  exact ⟨rfl, HB.out hb1⟩
set_option maxRecDepth 20000 in
set_option maxHeartbeats 8000000 in
theorem equalF_any (g h : Gr) (he : g.rules.map er2 = h.rules.map er2) (w : World) (hg : g.In w.heap.size w) (hh : h.In w.heap.size w) :
    Calls Tryz.prog 15 #[.slice g.a g.rules.length g.c, .slice h.a h.rules.length h.c, .func (.func 16) #[] #[]] w fun r w' => r = .returned (.bool true) ∧ Below w.heap.size w w' := by
  have hlen := hg.len
  have hll : h.rules.length = g.rules.length := by have := congrArg List.length he; simpa using this.symm
  have HG : Hid (g.In w.heap.size w) := hg
  have HH : Hid (h.In w.heap.size w) := hh
  have HE : Hid (g.rules.map er2 = h.rules.map er2) := he
  rw [hll]
  clear hg hh he
  go_enter Tryz.func15, Tryz.ntmps15
  go_wp2_with fail
  go_loopw [17] (fun p wr => ∃ i : Nat, p = .int .i64 i ∧ i ≤ g.rules.length ∧ Hid (Below w.heap.size w wr)) (fun p _ => g.rules.length - (intOf p).toNat)
  case atStart => exact ⟨0, rfl, Nat.zero_le _, Below.refl _ _⟩
  case round =>
    obtain ⟨i, rfl, hi, HB⟩ := hrel
    by_cases hend : i = g.rules.length
    · have g1 : decide (i < g.rules.length) = false := by simp; omega
      clear hend
      go_wp2_with fail
      go_ret
      exact ⟨rfl, HB.out⟩
    · have hil : i < g.rules.length := by omega
      clear hend
      obtain ⟨x, hx⟩ : ∃ x, g.rules[i]? = some x := ⟨_, List.getElem?_eq_getElem hil⟩
      obtain ⟨y, hy⟩ : ∃ y, h.rules[i]? = some y := ⟨_, List.getElem?_eq_getElem (by omega)⟩
      have hxy : er2 x = er2 y := by
        have := congrArg (·[i]?) HE.out
        simp only [List.getElem?_map, hx, hy, Option.map_some] at this
        exact Option.some.inj this
      have hrx := (HG.out.below HB.out).rule i x hx
      have hry := (HH.out.below HB.out).rule i y hy
      obtain ⟨b, o, ha, hb, c0, c1, c2, c3, c4, c5, c6, c7⟩ := rcells hrx
      have hA := (Below.refl wr.heap.size wr).alloc (Nat.le_refl _) (.cells (rcell x).toArray 49)
      have hry2 := hry
      obtain ⟨b', o', ha', hb', d0, d1, d2, d3, d4, d5, d6, d7⟩ := rcells (RuIn.below2 hry (HB.out.size) hA)
      have hA2 := hA.alloc hA.size (.cells (rcell y).toArray 49)
      have hsr := sameR_any x y hxy _ ((hrx.body.mono HB.out.size).grow hA2) ((hry2.body.mono HB.out.size).grow hA2)
      have HN : Hid (∀ {W}, Below ((wr.alloc (.cells (rcell x).toArray 49)).alloc (.cells (rcell y).toArray 49)).heap.size ((wr.alloc (.cells (rcell x).toArray 49)).alloc (.cells (rcell y).toArray 49)) W → Below w.heap.size w W) := fun h => HB.out.trans ((hA2.trans (h.mono hA2.size)).mono HB.out.size)
      rw [rcell_eq, rcell_eq] at hsr HN
      rw [rcell_eq] at d0 d1 d2 d3 d4 d5 d6 d7
      rw [ha, ha']
      clear hx hy hxy hrx hry hry2 hA hA2 hb hb' HB
      go_wp2_with (go_at_call 16; refine hsr.mono ?_; rintro e w5 ⟨rfl, hb5⟩; have H5 : Hid _ := HN.out hb5; clear hb5 hsr)
      exact ⟨⟨i + 1, by go_num, by omega, H5⟩, by simp [intOf]; omega⟩
set_option maxRecDepth 20000 in
theorem sameG_any (g h : Gr) (he : g.rules.map er2 = h.rules.map er2) (w : World) (hg : g.In w.heap.size w) (hh : h.In w.heap.size w) :
    Calls Tryz.prog 8 #[g.val, h.val] w fun r w' => r = .returned (.bool true) ∧ Below w.heap.size w w' := by
  have hA := ((Below.refl w.heap.size w).alloc (Nat.le_refl _) (.cells #[.slice g.a g.rules.length g.c] 24)).alloc (by simp) (.cells #[.slice h.a h.rules.length h.c] 24)
  have heq := equalF_any g h he _ (hg.grow hA) (hh.grow hA)
  rw [gval_eq, gval_eq]
  clear hg hh he
  go_enter Tryz.func8, Tryz.ntmps8
  go_wp2_with (go_at_call 15; refine heq.mono ?_; rintro e w1 ⟨rfl, hb1⟩)
  go_ret
  exact ⟨rfl, hA.trans (hb1.mono hA.size)⟩
end Go.Proofs.YtbeohmcmphebhaaGreatDoor
