import Derived.Test.YtbeohmcmphebhaaDoorXParF
import Derived.Test.YtbeohmcmphebhaaDoorXRPb
namespace Go.Proofs.YtbeohmcmphebhaaDoor
open Go.RowKit
open Ex.Ou (OuL)
set_option linter.unusedVariables false
set_option maxRecDepth 20000 in
set_option maxHeartbeats 4000000 in
theorem pre_and (T : ByteArray) (B n : Nat) (hT : T.size ≤ 1000000) (hd : Does T B 52 n (preP n)) (t : Tk) (w : World) (ht : t.of T.data.toList) (hn : t.s.length < n + 1) (hB : BoxN w B 60 (pcells T t)) (hk : t.k = 38) :
    Calls Tryd.prog 52 #[.pointer (some ⟨B, 0, none⟩)] w fun e w' => PR T B w (thn (take t) fun u => thn (preP n u) fun x => .ok (nd 10 [x.1], x.2)) e w' := by
  have hBl := hB.lt
  have h0 : t.k ≠ 0 := by rw [hk]; decide
  have g38 : ((t.k.toNat : Int) == 38) = true := eq_int hk (by decide)

  have R0 : Hid (Rp T B w (w.alloc (.cells z7 27)) t) := Rp.start hB
  have hcb := R0.out.box.cell
  rw [pcells_eq] at hcb
  have htk := take_any T B t (w.alloc (.cells z7 27)) (by omega) ht R0.out.box
  have htf := take_fine ht h0
  rw [z7_eq] at hcb htk
  clear hk hB h0
  cases hu : take t with
  | error s =>
    rw [hu] at htk
    rw [thn_error]
    unfold TakeR at htk
    simp only at htk
    unfold thrown at htk
    clear hu htf ht
    go_enter Tryd.func52, Tryd.ntmps52
    go_wp2_with (go_at_call 24; refine htk.mono ?_; rintro e w3 ⟨rfl, hg3⟩; rw [← z7_eq] at hg3)
    exact ⟨rfl, rfl, gr_trans R0.out.gr hg3⟩
  | ok u =>
    rw [hu] at htk htf
    simp only at htf
    rw [thn_ok]
    unfold TakeR at htk
    simp only at htk
    have hpr : ∀ W, BoxN W B 60 (pcells T u) → _ := fun W hW => hd u W htf.1 (by omega) hW
    clear hu htf ht
    cases hp : preP n u with
    | error s =>
      rw [hp] at hpr
      rw [thn_error]
      unfold PR at hpr
      simp only at hpr
      unfold thrown at hpr
      clear hp
      go_enter Tryd.func52, Tryd.ntmps52
      go_wp2_with (first
        | (go_at_call 24; refine htk.mono ?_; clear htk; rintro e w1 ⟨rfl, hb1, hg1⟩; rw [← z7_eq] at hg1; have R1 : Hid _ := R0.out.call hg1 hb1; clear hb1 hg1)
        | (go_at_call 52; refine (hpr _ R1.out.box).mono ?_; clear hpr; rintro e w4 ⟨rfl, hg4⟩))
      exact ⟨rfl, rfl, gr_trans R1.out.gr hg4⟩
    | ok x =>
      rw [hp] at hpr
      rw [thn_ok]
      unfold PR at hpr
      simp only at hpr
      unfold Says at hpr
      clear hp
      go_enter Tryd.func52, Tryd.ntmps52
      go_wp2_with (first
        | (go_at_call 24; refine htk.mono ?_; clear htk; rintro e w1 ⟨rfl, hb1, hg1⟩; rw [← z7_eq] at hg1; have R1 : Hid _ := R0.out.call hg1 hb1; clear hb1 hg1)
        | (go_at_call 52; refine (hpr _ R1.out.box).mono ?_; clear hpr; rintro e w4 ⟨⟨y, rfl, hye, hyo⟩, hb4, hg4⟩; have R4 : Hid _ := R1.out.call hg4 hb4; have HYO : Hid (y.Ou (w.heap.size + 1 ≤ ·) w4) := hyo.gr (gr_refl B w4) (fun b hb _ => ⟨fun e => by cases e; have := R1.out.res.lt; omega, by have := R1.out.res.lt; omega⟩); clear hb4 hg4 hyo)
        | (go_at_call 72; refine (around_any (w.heap.size + 1) 10 y w4 (by have := R4.out.res.lt; omega) HYO.out).mono ?_; rintro e w5 ⟨⟨z, rfl, hze, hzo⟩, hb5⟩; have R5 : Hid _ := R4.out.below hb5; have HZO : Hid _ := hzo; clear hzo hb5)
        | (refine wpList_store_box rfl 27 _ _ rfl w.heap.size _ rfl rfl z7 R5.out.res Tryd.info27 rfl (by simp [Value.oneCell']) ?_; intro w7 hx7 hg7; have hc := hx7.cell))
      refine bodyPost_ret (by simp [results, Tryd.results52, go_sem, hc]) rfl ⟨⟨z, rfl, by rw [hze, hye], ?_⟩, R5.out.last hg7⟩
      exact Ex.Ou.gr hg7 (fun b hb _ => ⟨fun e => by cases e; omega, by omega⟩) HZO.out
set_option maxRecDepth 20000 in
set_option maxHeartbeats 4000000 in
theorem pre_not (T : ByteArray) (B n : Nat) (hT : T.size ≤ 1000000) (hd : Does T B 52 n (preP n)) (t : Tk) (w : World) (ht : t.of T.data.toList) (hn : t.s.length < n + 1) (hB : BoxN w B 60 (pcells T t)) (hk : t.k = 33) :
    Calls Tryd.prog 52 #[.pointer (some ⟨B, 0, none⟩)] w fun e w' => PR T B w (thn (take t) fun u => thn (preP n u) fun x => .ok (nd 11 [x.1], x.2)) e w' := by
  have hBl := hB.lt
  have h0 : t.k ≠ 0 := by rw [hk]; decide
  have g33 : ((t.k.toNat : Int) == 33) = true := eq_int hk (by decide)
  have g38 : ((t.k.toNat : Int) == 38) = false := ne_int (by rw [hk]; decide) (by decide)
  have R0 : Hid (Rp T B w (w.alloc (.cells z7 27)) t) := Rp.start hB
  have hcb := R0.out.box.cell
  rw [pcells_eq] at hcb
  have htk := take_any T B t (w.alloc (.cells z7 27)) (by omega) ht R0.out.box
  have htf := take_fine ht h0
  rw [z7_eq] at hcb htk
  clear hk hB h0
  cases hu : take t with
  | error s =>
    rw [hu] at htk
    rw [thn_error]
    unfold TakeR at htk
    simp only at htk
    unfold thrown at htk
    clear hu htf ht
    go_enter Tryd.func52, Tryd.ntmps52
    go_wp2_with (go_at_call 24; refine htk.mono ?_; rintro e w3 ⟨rfl, hg3⟩; rw [← z7_eq] at hg3)
    exact ⟨rfl, rfl, gr_trans R0.out.gr hg3⟩
  | ok u =>
    rw [hu] at htk htf
    simp only at htf
    rw [thn_ok]
    unfold TakeR at htk
    simp only at htk
    have hpr : ∀ W, BoxN W B 60 (pcells T u) → _ := fun W hW => hd u W htf.1 (by omega) hW
    clear hu htf ht
    cases hp : preP n u with
    | error s =>
      rw [hp] at hpr
      rw [thn_error]
      unfold PR at hpr
      simp only at hpr
      unfold thrown at hpr
      clear hp
      go_enter Tryd.func52, Tryd.ntmps52
      go_wp2_with (first
        | (go_at_call 24; refine htk.mono ?_; clear htk; rintro e w1 ⟨rfl, hb1, hg1⟩; rw [← z7_eq] at hg1; have R1 : Hid _ := R0.out.call hg1 hb1; clear hb1 hg1)
        | (go_at_call 52; refine (hpr _ R1.out.box).mono ?_; clear hpr; rintro e w4 ⟨rfl, hg4⟩))
      exact ⟨rfl, rfl, gr_trans R1.out.gr hg4⟩
    | ok x =>
      rw [hp] at hpr
      rw [thn_ok]
      unfold PR at hpr
      simp only at hpr
      unfold Says at hpr
      clear hp
      go_enter Tryd.func52, Tryd.ntmps52
      go_wp2_with (first
        | (go_at_call 24; refine htk.mono ?_; clear htk; rintro e w1 ⟨rfl, hb1, hg1⟩; rw [← z7_eq] at hg1; have R1 : Hid _ := R0.out.call hg1 hb1; clear hb1 hg1)
        | (go_at_call 52; refine (hpr _ R1.out.box).mono ?_; clear hpr; rintro e w4 ⟨⟨y, rfl, hye, hyo⟩, hb4, hg4⟩; have R4 : Hid _ := R1.out.call hg4 hb4; have HYO : Hid (y.Ou (w.heap.size + 1 ≤ ·) w4) := hyo.gr (gr_refl B w4) (fun b hb _ => ⟨fun e => by cases e; have := R1.out.res.lt; omega, by have := R1.out.res.lt; omega⟩); clear hb4 hg4 hyo)
        | (go_at_call 72; refine (around_any (w.heap.size + 1) 11 y w4 (by have := R4.out.res.lt; omega) HYO.out).mono ?_; rintro e w5 ⟨⟨z, rfl, hze, hzo⟩, hb5⟩; have R5 : Hid _ := R4.out.below hb5; have HZO : Hid _ := hzo; clear hzo hb5)
        | (refine wpList_store_box rfl 27 _ _ rfl w.heap.size _ rfl rfl z7 R5.out.res Tryd.info27 rfl (by simp [Value.oneCell']) ?_; intro w7 hx7 hg7; have hc := hx7.cell))
      refine bodyPost_ret (by simp [results, Tryd.results52, go_sem, hc]) rfl ⟨⟨z, rfl, by rw [hze, hye], ?_⟩, R5.out.last hg7⟩
      exact Ex.Ou.gr hg7 (fun b hb _ => ⟨fun e => by cases e; omega, by omega⟩) HZO.out
end Go.Proofs.YtbeohmcmphebhaaDoor
namespace Go.Proofs.YtbeohmcmphebhaaDoor
open Go.RowKit
open Ex.Ou (OuL)
set_option linter.unusedVariables false
theorem below_grown {w w' : World} (h : Below w.heap.size w w') : w.grownBy w' none := ⟨h.os, h.tape, h.output, h.size, fun k hk _ => h.block k hk⟩
/-- Kids that a loop gathers. -/
structure Kq (w wr : World) (v : Value) (l : List Ex) : Prop where
  own : wr.ownsRow (w.heap.size + 1) 27 7 v l.length (kcells l)
  ou : ∀ x ∈ l, x.Ou (fun b => w.heap.size + 1 ≤ b ∧ v.ownBlock ≠ some b) wr
theorem Kq.start (w wr : World) : Kq w wr (.slice none 0 0) [] := ⟨World.ownsRow_nil _ _ _ _, fun x hx => by cases hx⟩
theorem Kq.below {w wr w1 : World} {v : Value} {l : List Ex} (h : Kq w wr v l) (hb : Below wr.heap.size wr w1) : Kq w w1 v l :=
  ⟨h.own.kept (below_grown hb) (by cases v.ownBlock <;> simp), fun x hx => (h.ou x hx).below hb (fun _ h => h)⟩
theorem Kq.blk {w wr : World} {v : Value} {l : List Ex} (h : Kq w wr v l) (k : Nat) (hk : v.ownBlock = some k) : w.heap.size + 1 ≤ k ∧ k < wr.heap.size := h.own.lt k hk
theorem Kq.push {w w1 w3 : World} {g3 cap3 N : Nat} {v : Value} {l : List Ex} {y : Ex} (h : Kq w w1 v l) (hN : ∀ k, v.ownBlock = some k → k < N) (hy : y.Ou (N ≤ ·) w1) (hwN : w.heap.size + 1 ≤ N)
    (hown : w3.ownsRow (w.heap.size + 1) 27 7 (.slice (some ⟨g3, 0, none⟩) (l.length + 1) cap3) (l.length + 1) (kcells l ++ y.cells.toList)) (hg : (w1.alloc (.cells y.cells 27)).grownBy w3 v.ownBlock) (h3 : v.ownBlock = some g3 ∨ g3 = w1.heap.size + 1) :
    Kq w w3 (.slice (some ⟨g3, 0, none⟩) (l.length + 1) cap3) (l ++ [y]) := by
  have hg0 : w1.grownBy w3 v.ownBlock := grown_alloc _ hg
  refine ⟨by rw [kcells_app]; simpa using hown, fun x hx => ?_⟩
  have ho : (Value.slice (some ⟨g3, 0, none⟩) (l.length + 1) cap3).ownBlock = some g3 := rfl
  rw [ho]
  rcases List.mem_append.1 hx with hx | hx
  · refine (h.ou x hx).gr hg0 (fun b hb hlt => ⟨hb.2.symm, hb.1, ?_⟩)
    rcases h3 with h3 | rfl
    · rw [← h3]; exact hb.2
    · intro e; cases e; omega
  · rw [List.mem_singleton.1 hx]
    refine hy.gr hg0 (fun b hb hlt => ⟨fun e => by have := hN b e.symm; omega, by omega, ?_⟩)
    rcases h3 with h3 | rfl
    · intro e; cases e; have := hN _ h3; omega
    · intro e; cases e; omega
theorem Kq.kl {w wr : World} {g cap : Nat} {l : List Ex} (h : Kq w wr (.slice (some ⟨g, 0, none⟩) l.length cap) l) (hl : l.length ≤ 2000000) : KL (w.heap.size + 1) wr g cap l := by
  have ho : (Value.slice (some ⟨g, 0, none⟩) l.length cap).ownBlock = some g := rfl
  refine ⟨(h.blk g ho).1, hl, fun j x hx => ⟨fun m hm => ?_, (h.ou x (List.mem_of_getElem? hx)).gr (gr_refl 0 wr) (fun b hb _ => ⟨?_, hb.1⟩)⟩⟩
  · obtain ⟨v, hv⟩ := cells7 x m hm
    have h1 := kcells_at l j m x hx hm
    rw [hv] at h1 ⊢
    have := World.ownsRow.cells h.own (g := g) rfl _ _ h1
    rwa [Addr.add_lit, Nat.zero_add] at this
  · intro e; cases e; omega
theorem Kq.kl' {w wr : World} {g cap n : Nat} {l : List Ex} (h : Kq w wr (.slice (some ⟨g, 0, none⟩) n cap) l) (hn : n = l.length) (hl : l.length ≤ 2000000) : KL (w.heap.size + 1) wr g cap l := by subst hn; exact h.kl hl
theorem wpList_app_kq {ops : Array Oper} {rest : List Oper} {o : Oper} {a : Act} {Q : Exit → Act → World → Prop} (hgd : o.guard = none) (s x : Operand)
    (ho : o.op = .call { callee := .builtin .append, args := #[s, x], argTypes := #[25, 25] }) {n g N : Nat} {L : List Tk} {w w1 : World} {v : Value} {l : List Ex} {y : Ex} (h : Kq w w1 v l) (hq : Rq n g L w w1)
    (hs : a.eval s = v) {H : Nat} (hH : w1.heap.size = H) (hx : a.eval x = .slice (some ⟨H, 0, none⟩) 1 1) (hN : ∀ k, v.ownBlock = some k → k < N) (hwN : w.heap.size + 1 ≤ N) (hy : y.Ou (N ≤ ·) w1) (hl : l.length ≤ 2000000)
    (hK : ∀ g3 cap3 w3, Kq w w3 (.slice (some ⟨g3, 0, none⟩) (l.length + 1) cap3) (l ++ [y]) → Rq n g L w w3 → wpList Tryd.prog ops Q rest (a.put o.dst (.slice (some ⟨g3, 0, none⟩) (l.length + 1) cap3)) w3) :
    wpList Tryd.prog ops Q (o :: rest) a (w1.alloc (.cells #[.int .i64 y.k, .int .u64 (wd y.S 0), .int .u64 (wd y.S 1), .int .u64 (wd y.S 2), .int .u64 (wd y.S 3), .string y.t, .slice y.a y.kids.length y.c] 27)) := by
  obtain ⟨i0, hi, hz0, hz1, hz2⟩ := info_parts Tryd.infoX
  have hres := hq.res.lt
  have h1 := h.own.kept (World.grownBy_alloc w1 (.cells y.cells 27) none) (by cases v.ownBlock <;> simp)
  have hnews := World.news_of_block (World.alloc_heap_new w1 (.cells y.cells 27))
  subst hH
  refine wpList_append_lies _ hgd s x 25 ho (w.heap.size + 1) 27 i0 (.agg z7) 7 80 Tryd.underlying25 hi hz0 hz1 hz2 rfl (by decide) v l.length (kcells l) hs h1 ⟨w1.heap.size, 0, none⟩ 1 1 y.cells.toList hx rfl hnews (ex_one y) (by omega) (by unfold maxLen; omega) (by omega) (by simp; omega) (w1.heap.size + 1) (by simp) ?_
  intro g3 cap3 w3 hown hgr hor _
  exact hK g3 cap3 w3 (h.push hN hy hwN hown hgr hor) ((hq.alloc _).own hgr (fun k hk => by have := (h.blk k hk).1; omega))
end Go.Proofs.YtbeohmcmphebhaaDoor
