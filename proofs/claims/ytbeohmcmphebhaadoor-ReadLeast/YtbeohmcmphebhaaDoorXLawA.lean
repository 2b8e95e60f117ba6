import Derived.Test.YtbeohmcmphebhaaDoorXRBb
import Derived.Test.YtbeohmcmphebhaaDoorXPrint
import Derived.Test.YtbeohmcmphebhaaDoorXRsame
import Derived.Test.YtbeohmcmphebhaaDoorXOpen
namespace Go.Proofs.YtbeohmcmphebhaaDoor
open Go.RowKit
set_option linter.unusedVariables false
theorem parK_alt : (par [97, 32, 47, 32, 98]).2.2 = 0 ∧ (par [97, 32, 47, 32, 98]).1.k = 6 := by decide +kernel
theorem parK_not : (par [33, 97]).2.2 = 0 ∧ (par [33, 97]).1.k = 11 := by decide +kernel
theorem parK_rem : (par [35, 32, 120, 10, 97, 32, 35]).2.2 = 0 ∧ (par [35, 32, 120, 10, 97, 32, 35]).1.k = 4 := by decide +kernel
/-- A text that the law itself reads: no error, and of its kind. -/
theorem parse_const (T : ByteArray) (k : Int) (h : (par T.data.toList).2.2 = 0 ∧ (par T.data.toList).1.k = k) (hT : T.size ≤ 2000) (w : World) :
    Calls Tryd.prog 8 #[.string T] w fun e w' => (∃ (y : Ex) (n : Int), e = .returned (.tuple #[.agg #[.int .i64 k, .int .u64 (wd y.S 0), .int .u64 (wd y.S 1), .int .u64 (wd y.S 2), .int .u64 (wd y.S 3), .string y.t, .slice y.a y.kids.length y.c], .int .i64 n, .int .i64 0])) ∧ Below w.heap.size w w' := by
  refine (parse_say T w (by omega)).mono ?_
  rintro e w' ⟨⟨y, rfl, hye, hyo⟩, hb⟩
  refine ⟨⟨y, (par T.data.toList).2.1, ?_⟩, hb⟩
  rw [h.1, show y.k = k from by rw [← er_k, hye]; exact h.2]
theorem In_grow2 {e : Ex} {w W : World} (h : e.In w.heap.size w) (hb : Below w.heap.size w W) : e.In W.heap.size W := h.grow hb
/-- An expression that lies, and its box. -/
def Hd (e : Ex) (w W : World) : Prop := BoxN W w.heap.size 27 e.cells ∧ Below w.heap.size w W
theorem Hd.next {e : Ex} {w W W2 : World} (h : Hd e w W) (hb : Below W.heap.size W W2) : Hd e w W2 := ⟨h.1.below hb h.1.lt, h.2.trans (hb.mono h.2.size)⟩
theorem Hd.alloc {e : Ex} {w W : World} (h : Hd e w W) (o : Obj) : Hd e w (W.alloc o) := h.next ((Below.refl _ _).alloc (Nat.le_refl _) o)
set_option maxRecDepth 20000 in
set_option maxHeartbeats 4000000 in
theorem back_any (e : Ex) (w : World) (hin : e.In w.heap.size w) :
    Calls Tryd.prog 4 #[e.val] w fun r W' => r = .returned (.bool true) ∧ Below w.heap.size w W' := by
  have H0 : Hid (Hd e w (w.alloc (.cells e.cells 27))) := ⟨BoxN.new w 27 e.cells, (Below.refl w.heap.size w).alloc (Nat.le_refl _) _⟩
  have hcs := parse_const ⟨#[97, 32, 47, 32, 98]⟩ 6 parK_alt (by decide) (w.alloc (.cells e.cells 27))
  have hpr : ∀ W, Hd e w W → _ := fun W h => print_any e W (hin.grow h.2)
  have hck : ∀ W, Hd e w W → _ := fun W h => check_any e W (hin.grow h.2)
  rw [val_eq] at hpr hck
  rw [val_eq]
  rw [cells_eq] at hcs
  by_cases h0 : check e = 0
  · have hp2 : prR e = e.pr := by unfold prR; rw [if_pos h0]
    have h60 := ((check_zero e).1 h0).1
    have hlen := pr_len e (okA_check e h0)
    rw [hp2, h0] at hpr
    have hpa : ∀ W, _ := fun W => parse_say ⟨e.pr.toArray⟩ W (by rw [mk_size]; omega)
    rw [show (⟨e.pr.toArray⟩ : ByteArray).data.toList = e.pr from rfl] at hpa
    have hsz := mk_size e.pr
    by_cases hlg : 2000 < e.pr.length
    · have hpar : par e.pr = (nd 0 [], 0, 2) := by unfold par; rw [if_pos hlg]
      rw [hpar] at hpa
      unfold Says3 at hpa
      simp only at hpa
      generalize (⟨e.pr.toArray⟩ : ByteArray) = T at *
      have hgt : (2000 : Int) < T.size := by omega
      clear hpar hlg hlen h60 hp2 h0 hsz hck
      go_enter Tryd.func4, Tryd.ntmps4
      go_wp2_with (first
        | (go_at_call 8; refine hcs.mono ?_; clear hcs; rintro r W1 ⟨⟨y1, n1, rfl⟩, hb1⟩; rw [← cells_eq] at hb1; have K1 : Hid _ := (H0.out.next hb1).alloc (.cells #[.int .i64 6, .int .u64 (wd y1.S 0), .int .u64 (wd y1.S 1), .int .u64 (wd y1.S 2), .int .u64 (wd y1.S 3), .string y1.t, .slice y1.a y1.kids.length y1.c] 27); have cE1 := K1.out.1.cell; rw [cells_eq] at cE1; clear hb1)
        | (go_at_call 11; refine (hpr _ K1.out).mono ?_; clear hpr; rintro r W2 ⟨rfl, hb2⟩; have K2 : Hid _ := Hd.next (e := e) (w := w) K1.out hb2; clear hb2 cE1)
        | (go_at_call 8; refine (hpa _).mono ?_; clear hpa; rintro r W3 ⟨⟨y3, rfl, hye, hyo⟩, hb3⟩; have K3 : Hid _ := (Hd.next (e := e) (w := w) K2.out hb3).alloc (.cells #[.int .i64 y3.k, .int .u64 (wd y3.S 0), .int .u64 (wd y3.S 1), .int .u64 (wd y3.S 2), .int .u64 (wd y3.S 3), .string y3.t, .slice y3.a y3.kids.length y3.c] 27); clear hyo hye hb3))
      go_ret
      exact ⟨rfl, K3.out.2⟩
    · have hpar := par_pr e h0 (by omega)
      rw [hpar] at hpa
      unfold Says3 at hpa
      simp only at hpa
      generalize (⟨e.pr.toArray⟩ : ByteArray) = T at *
      have hgt : ¬ (2000 : Int) < T.size := by omega
      have hsm : Hid (∀ (y : Ex) W, Hd e w W → y.In W.heap.size W → y.er = e.er → Calls Tryd.prog 10 #[e.val, y.val] W fun r w' => r = .returned (.bool true) ∧ Below W.heap.size W w') := fun y W h hy he => by
        have := same_any e y W (hin.grow h.2) hy
        rw [(same_er e y).2 he.symm] at this
        exact this
      clear hpar hlg hlen h60 hp2 h0 hsz hck
      go_enter Tryd.func4, Tryd.ntmps4
      go_wp2_with (first
        | (go_at_call 8; refine hcs.mono ?_; clear hcs; rintro r W1 ⟨⟨y1, n1, rfl⟩, hb1⟩; rw [← cells_eq] at hb1; have K1 : Hid _ := (H0.out.next hb1).alloc (.cells #[.int .i64 6, .int .u64 (wd y1.S 0), .int .u64 (wd y1.S 1), .int .u64 (wd y1.S 2), .int .u64 (wd y1.S 3), .string y1.t, .slice y1.a y1.kids.length y1.c] 27); have cE1 := K1.out.1.cell; rw [cells_eq] at cE1; clear hb1)
        | (go_at_call 11; refine (hpr _ K1.out).mono ?_; clear hpr; rintro r W2 ⟨rfl, hb2⟩; have K2 : Hid _ := Hd.next (e := e) (w := w) K1.out hb2; clear hb2 cE1)
        | (go_at_call 8; refine (hpa _).mono ?_; clear hpa; rintro r W3 ⟨⟨y3, rfl, hye, hyo⟩, hb3⟩; have K3 : Hid _ := (Hd.next (e := e) (w := w) K2.out hb3).alloc (.cells y3.cells 27); have I3 : Hid (y3.In (W3.alloc (.cells y3.cells 27)).heap.size (W3.alloc (.cells y3.cells 27))) := (Ex.Ou.gr (World.grownBy_alloc W3 (.cells y3.cells 27) none) (Q := fun _ => True) (fun _ _ _ => ⟨by simp, trivial⟩) hyo).inn; have cE3 := K3.out.1.cell; have cY3 := (BoxN.new W3 27 y3.cells).cell; rw [cells_eq] at cE3 cY3; have hs3 := hsm.out y3 _ K3.out I3.out hye; rw [val_eq, val_eq] at hs3; simp only [cells_eq] at hs3 cE3 cY3; clear hyo hb3)
        | (go_at_call 10; refine hs3.mono ?_; clear hs3; rintro r W4 ⟨rfl, hb4⟩; simp only [← cells_eq] at hb4; have K4 : Hid _ := Hd.next (e := e) (w := w) K3.out hb4; clear hb4))
      go_ret
      exact ⟨rfl, K4.out.2⟩
  · have g : (check e != 0) = true := by simpa using h0
    have hp2 : prR e = [] := by unfold prR; rw [if_neg h0]
    rw [hp2] at hpr
    have hcc : (check e == check e) = true := by simp
    go_enter Tryd.func4, Tryd.ntmps4
    go_wp2_with (first
      | (go_at_call 8; refine hcs.mono ?_; clear hcs; rintro r W1 ⟨⟨y1, n1, rfl⟩, hb1⟩; rw [← cells_eq] at hb1; have K1 : Hid _ := (H0.out.next hb1).alloc (.cells #[.int .i64 6, .int .u64 (wd y1.S 0), .int .u64 (wd y1.S 1), .int .u64 (wd y1.S 2), .int .u64 (wd y1.S 3), .string y1.t, .slice y1.a y1.kids.length y1.c] 27); have cE1 := K1.out.1.cell; rw [cells_eq] at cE1; clear hb1)
      | (go_at_call 11; refine (hpr _ K1.out).mono ?_; clear hpr; rintro r W2 ⟨rfl, hb2⟩; have K2 : Hid _ := Hd.next (e := e) (w := w) K1.out hb2; have cE2 := K2.out.1.cell; rw [cells_eq] at cE2; clear hb2 cE1)
      | (go_at_call 12; refine (hck _ K2.out).mono ?_; clear hck; rintro r W3 ⟨rfl, hb3⟩; have K3 : Hid _ := Hd.next (e := e) (w := w) K2.out hb3; clear hb3))
    go_ret
    exact ⟨by simp, K3.out.2⟩
end Go.Proofs.YtbeohmcmphebhaaDoor
namespace Go.Proofs.YtbeohmcmphebhaaDoor
open Go.RowKit
set_option linter.unusedVariables false
theorem parse_err (l s : List UInt8) (h : parse l = .error s) : s.length ≤ l.length := by
  unfold parse at h
  by_cases h3 : (tok l).k = 4
  · rw [if_pos h3] at h
    cases h
    exact tok_len l
  · rw [if_neg h3] at h
    have ht := tok_of l l (List.suffix_refl _) h3
    have hl := ht.2.1.length_le
    have f1 := altP_fine (preP_fine (T := l) (l.length + 1)) (tok l) ht (by omega)
    cases hq : altP (preP (l.length + 1)) (tok l) with
    | error s' =>
      rw [hq] at f1 h
      rw [thn_error] at h
      cases h
      exact (show s <:+ l from f1).length_le
    | ok x =>
      rw [hq] at f1 h
      rw [thn_ok] at h
      split at h
      · cases h
      · cases h
        exact f1.1.2.1.length_le
/-- Either an error and nothing else, or an expression that is right. -/
theorem par_cases (l : List UInt8) : ((par l).2.2 ≠ 0 ∧ (par l).1 = nd 0 [] ∧ 0 ≤ (par l).2.1 ∧ (par l).2.1 ≤ l.length) ∨ ((par l).2.2 = 0 ∧ (par l).2.1 = 0 ∧ check (par l).1 = 0) := by
  unfold par
  split
  · exact .inl ⟨by decide, rfl, by decide, by show (0 : Int) ≤ l.length; omega⟩
  · cases hp : parse l with
    | error s =>
      have := parse_err l s hp
      exact .inl ⟨by show (4 : Int) ≠ 0; decide, rfl, by show (0 : Int) ≤ (l.length : Int) - s.length; omega, by show (l.length : Int) - s.length ≤ l.length; omega⟩
    | ok x =>
      by_cases h0 : check x = 0
      · simp only [if_pos h0]
        exact .inr ⟨trivial, trivial, h0⟩
      · simp only [if_neg h0]
        exact .inl ⟨h0, trivial, by decide, by omega⟩
set_option maxRecDepth 20000 in
set_option maxHeartbeats 4000000 in
theorem again_any (s : ByteArray) (w : World) (hs : s.size ≤ reachBytes) :
    Calls Tryd.prog 5 #[.string s] w fun r W' => r = .returned (.bool true) ∧ Below w.heap.size w W' := by
  have hs47 : s.size ≤ 140737488355328 := Nat.le_trans hs reach47
  have hcs := parse_const ⟨#[33, 97]⟩ 11 parK_not (by decide) w
  have hp1 : ∀ W, _ := fun W => parse_say s W hs47
  unfold Says3 at hp1
  have hll := llen s
  rcases par_cases s.data.toList with ⟨h1, h2, h3, h4⟩ | ⟨h1, h2, h3⟩
  · rw [h2] at hp1
    rw [hll] at h4
    generalize (par s.data.toList).2.1 = n at *
    generalize (par s.data.toList).2.2 = er at *
    have g1 : (er != 0) = true := by simpa using h1
    clear h1 h2 hll
    have hp2 : ∀ W, Calls Tryd.prog 8 #[.string s] W fun e w' => (∃ y : Ex, e = .returned (.tuple #[.agg #[.int .i64 0, .int .u64 (wd y.S 0), .int .u64 (wd y.S 1), .int .u64 (wd y.S 2), .int .u64 (wd y.S 3), .string y.t, .slice y.a y.kids.length y.c], .int .i64 n, .int .i64 er])) ∧ Below W.heap.size W w' := fun W => (hp1 W).mono (by
      rintro e w' ⟨⟨y, rfl, hye, _⟩, hb⟩
      have hk : y.k = 0 := by rw [← er_k, hye]; rfl
      rw [hk]
      exact ⟨⟨y, rfl⟩, hb⟩)
    clear hp1
    go_enter Tryd.func5, Tryd.ntmps5
    go_wp2_with (first
      | (go_at_call 8; refine hcs.mono ?_; clear hcs; rintro r W1 ⟨⟨y1, n1, rfl⟩, hb1⟩; have K1 : Hid (Below w.heap.size w (W1.alloc (.cells #[.int .i64 11, .int .u64 (wd y1.S 0), .int .u64 (wd y1.S 1), .int .u64 (wd y1.S 2), .int .u64 (wd y1.S 3), .string y1.t, .slice y1.a y1.kids.length y1.c] 27))) := hb1.alloc hb1.size _; clear hb1)
      | (go_at_call 8; refine (hp2 _).mono ?_; clear hp2; rintro r W2 ⟨⟨y2, rfl⟩, hb2⟩; have K2 : Hid (Below w.heap.size w (W2.alloc (.cells #[.int .i64 0, .int .u64 (wd y2.S 0), .int .u64 (wd y2.S 1), .int .u64 (wd y2.S 2), .int .u64 (wd y2.S 3), .string y2.t, .slice y2.a y2.kids.length y2.c] 27))) := (K1.out.trans (hb2.mono K1.out.size)).alloc (Nat.le_trans K1.out.size hb2.size) _; clear hb2))
    all_goals (go_ret; exact ⟨by simp; try omega, K2.out⟩)
  · rw [h1, h2] at hp1
    generalize hX : (par s.data.toList).1 = X at *
    clear h1 h2 hll hX
    go_enter Tryd.func5, Tryd.ntmps5
    go_wp2_with (first
      | (go_at_call 8; refine hcs.mono ?_; clear hcs; rintro r W1 ⟨⟨y1, n1, rfl⟩, hb1⟩; have K1 : Hid (Below w.heap.size w (W1.alloc (.cells #[.int .i64 11, .int .u64 (wd y1.S 0), .int .u64 (wd y1.S 1), .int .u64 (wd y1.S 2), .int .u64 (wd y1.S 3), .string y1.t, .slice y1.a y1.kids.length y1.c] 27))) := hb1.alloc hb1.size _; clear hb1)
      | (go_at_call 8; refine (hp1 _).mono ?_; clear hp1; rintro r W2 ⟨⟨y, rfl, hye, hyo⟩, hb2⟩))
    have K2 : Hid (Below w.heap.size w W2) := K1.out.trans (hb2.mono K1.out.size)
    have H2 : Hid (Hd y W2 (W2.alloc (.cells y.cells 27))) := ⟨BoxN.new W2 27 y.cells, (Below.refl W2.heap.size W2).alloc (Nat.le_refl _) _⟩
    have hcy : check y = 0 := by rw [← check_er, hye]; exact h3
    have I2 : Hid (y.In W2.heap.size W2) := hyo.inn
    have hpr := print_any y (W2.alloc (.cells y.cells 27)) (I2.out.grow H2.out.2)
    have hp2 : prR y = y.pr := by unfold prR; rw [if_pos hcy]
    have h60 := ((check_zero y).1 hcy).1
    have hlen := pr_len y (okA_check y hcy)
    have hpa : ∀ W, _ := fun W => parse_say ⟨y.pr.toArray⟩ W (by rw [mk_size]; omega)
    rw [show (⟨y.pr.toArray⟩ : ByteArray).data.toList = y.pr from rfl] at hpa
    have hsz := mk_size y.pr
    rw [hp2, hcy, val_eq] at hpr
    have cY := H2.out.1.cell
    clear hb2 hyo hye
    by_cases hlg : 2000 < y.pr.length
    · have hpar : par y.pr = (nd 0 [], 0, 2) := by unfold par; rw [if_pos hlg]
      rw [hpar] at hpa
      unfold Says3 at hpa
      simp only at hpa
      generalize (⟨y.pr.toArray⟩ : ByteArray) = T at *
      have hgt : (2000 : Int) < T.size := by omega
      rw [cells_eq] at hpr cY
      clear hpar hlg hlen h60 hp2 hsz hcy h3
      go_wp2_with (first
        | (go_at_call 11; refine hpr.mono ?_; clear hpr; rintro r W3 ⟨rfl, hb3⟩; rw [← cells_eq] at hb3; have K3 : Hid (Hd y W2 W3) := H2.out.next hb3; clear hb3 cY)
        | (go_at_call 8; refine (hpa _).mono ?_; clear hpa; rintro r W4 ⟨⟨y4, rfl, _, _⟩, hb4⟩; have K4 : Hid (Hd y W2 (W4.alloc (.cells #[.int .i64 y4.k, .int .u64 (wd y4.S 0), .int .u64 (wd y4.S 1), .int .u64 (wd y4.S 2), .int .u64 (wd y4.S 3), .string y4.t, .slice y4.a y4.kids.length y4.c] 27))) := (Hd.next (e := y) (w := W2) K3.out hb4).alloc _; clear hb4))
      go_ret
      exact ⟨rfl, K2.out.trans (K4.out.2.mono K2.out.size)⟩
    · have hpar := par_pr y hcy (by omega)
      rw [hpar] at hpa
      unfold Says3 at hpa
      simp only at hpa
      generalize (⟨y.pr.toArray⟩ : ByteArray) = T at *
      have hgt : ¬ (2000 : Int) < T.size := by omega
      have hsm : Hid (∀ (z : Ex) W, Hd y W2 W → z.In W.heap.size W → z.er = y.er → Calls Tryd.prog 10 #[y.val, z.val] W fun r w' => r = .returned (.bool true) ∧ Below W.heap.size W w') := fun z W h hz he => by
        have := same_any y z W (I2.out.grow h.2) hz
        rw [(same_er y z).2 he.symm] at this
        exact this
      rw [cells_eq] at hpr cY
      clear hpar hlg hlen h60 hp2 hsz hcy h3
      go_wp2_with (first
        | (go_at_call 11; refine hpr.mono ?_; clear hpr; rintro r W3 ⟨rfl, hb3⟩; rw [← cells_eq] at hb3; have K3 : Hid (Hd y W2 W3) := H2.out.next hb3; clear hb3 cY)
        | (go_at_call 8; refine (hpa _).mono ?_; clear hpa; rintro r W4 ⟨⟨z, rfl, hze, hzo⟩, hb4⟩; have K4 : Hid (Hd y W2 (W4.alloc (.cells z.cells 27))) := (Hd.next (e := y) (w := W2) K3.out hb4).alloc _; have I4 : Hid (z.In (W4.alloc (.cells z.cells 27)).heap.size (W4.alloc (.cells z.cells 27))) := (Ex.Ou.gr (World.grownBy_alloc W4 (.cells z.cells 27) none) (Q := fun _ => True) (fun _ _ _ => ⟨by simp, trivial⟩) hzo).inn; have cE4 := K4.out.1.cell; have cZ4 := (BoxN.new W4 27 z.cells).cell; have hs4 := hsm.out z _ K4.out I4.out hze; rw [val_eq, val_eq] at hs4; simp only [cells_eq] at hs4 cE4 cZ4; clear hzo hb4)
        | (go_at_call 10; refine hs4.mono ?_; clear hs4; rintro r W5 ⟨rfl, hb5⟩; simp only [← cells_eq] at hb5; have K5 : Hid (Hd y W2 W5) := Hd.next (e := y) (w := W2) K4.out hb5; clear hb5))
      go_ret
      exact ⟨rfl, K2.out.trans (K5.out.2.mono K2.out.size)⟩
end Go.Proofs.YtbeohmcmphebhaaDoor
