import Derived.Test.YtbeohmcmphebhaaDoorXLawA
import Derived.Test.YtbeohmcmphebhaaDoorXBlk
namespace Go.Proofs.YtbeohmcmphebhaaDoor
open Go.RowKit
set_option linter.unusedVariables false
theorem par_post (l : List UInt8) (hl : l.length ≤ 1900) : (par (ahead ++ l ++ post)).2.2 = (par l).2.2 ∧ (par (ahead ++ l ++ post)).1 = (par l).1 ∧
    ((par l).2.2 ≠ 4 ∨ (par (ahead ++ l ++ post)).2.1 = (par l).2.1 + 7 ∨ ((par l).2.1 = l.length ∧ (par (ahead ++ l ++ post)).2.1 = l.length + 12)) := by
  have h12 : (ahead ++ l ++ post).length = l.length + 12 := by simp [ahead, post]
  have h1 : par (ahead ++ l ++ post) = (match mapE id hpost (parse l) with | .error s => (nd 0 [], (l.length : Int) + 12 - s.length, 4) | .ok x => if check x = 0 then (x, 0, 0) else (nd 0 [], 0, check x)) := by
    unfold par
    rw [if_neg (by omega), parse_post, h12]
    push_cast
    rfl
  have h2 : par l = (match parse l with | .error s => (nd 0 [], (l.length : Int) - s.length, 4) | .ok x => if check x = 0 then (x, 0, 0) else (nd 0 [], 0, check x)) := by
    unfold par
    rw [if_neg (by omega)]
    rfl
  rw [h1, h2]
  cases hp : parse l with
  | error s =>
    refine ⟨rfl, rfl, .inr ?_⟩
    show (l.length : Int) + 12 - (hpost s).length = (l.length : Int) - s.length + 7 ∨ ((l.length : Int) - s.length = l.length ∧ (l.length : Int) + 12 - (hpost s).length = l.length + 12)
    unfold hpost
    by_cases h0 : s = []
    · rw [if_pos h0, h0]; right; simp
    · rw [if_neg h0]; left
      have : (s ++ post).length = s.length + 5 := by simp [post]
      rw [this]; push_cast; omega
  | ok x =>
    by_cases h0 : check x = 0
    · simp only [mapE, id, if_pos h0]
      exact ⟨trivial, trivial, .inl (by decide)⟩
    · simp only [mapE, id, if_neg h0]
      refine ⟨trivial, trivial, ?_⟩
      by_cases h4 : check x = 4
      · exfalso
        have : ∀ (l : List (Int × Ex)) (n : Nat), chk n l ≠ 4 := by
          intro l
          induction l with
          | nil => intro n; simp [chk]
          | cons p r ih =>
            intro n
            obtain ⟨d, y⟩ := p
            rw [chk]
            split
            · decide
            split
            · decide
            split
            · exact ih _
            · decide
        exact this _ _ h4
      · exact .inl h4
/-- What the law itself puts together. -/
theorem cats (s : ByteArray) (hs : s.size ≤ 140737488351232) : ∃ A1 A2 : ByteArray, A2.data.toList = ahead ++ s.data.toList ++ post ∧ A2.size = s.size + 12 ∧
    (∀ W, (Op.stringOp .add (⟨#[32, 9, 35, 32, 40, 32, 10]⟩ : ByteArray) s).run Tryd.prog W = .ok (.string A1) W) ∧ (∀ W, (Op.stringOp .add A1 (⟨#[10, 32, 35, 32, 39]⟩ : ByteArray)).run Tryd.prog W = .ok (.string A2) W) := by
  have e1 : (⟨#[32, 9, 35, 32, 40, 32, 10]⟩ : ByteArray).size = 7 := rfl
  have e2 : (⟨#[10, 32, 35, 32, 39]⟩ : ByteArray).size = 5 := rfl
  have l1 : (⟨#[32, 9, 35, 32, 40, 32, 10]⟩ : ByteArray).data.toList = ahead := rfl
  have l2 : (⟨#[10, 32, 35, 32, 39]⟩ : ByteArray).data.toList = post := rfl
  generalize (⟨#[32, 9, 35, 32, 40, 32, 10]⟩ : ByteArray) = P at *
  generalize (⟨#[10, 32, 35, 32, 39]⟩ : ByteArray) = Q at *
  refine ⟨P ++ s, (P ++ s) ++ Q, ?_, ?_, fun W => run_string_add_sum W _ _ (by omega), fun W => run_string_add_sum W _ _ (by rw [ByteArray.size_append]; omega)⟩
  · rw [ByteArray.data_append, ByteArray.data_append, Array.toList_append, Array.toList_append, l1, l2]
  · rw [ByteArray.size_append, ByteArray.size_append]; omega
set_option maxRecDepth 20000 in
set_option maxHeartbeats 4000000 in
theorem blanks_any (s : ByteArray) (w : World) (hs : s.size ≤ reachBytes) :
    Calls Tryd.prog 7 #[.string s] w fun r W' => r = .returned (.bool true) ∧ Below w.heap.size w W' := by
  have hrb : reachBytes ≤ 140737488351232 := by decide
  have hsz : s.size ≤ 140737488351232 := Nat.le_trans hs hrb
  have hs47 : s.size ≤ 140737488355328 := by omega
  clear hs hrb
  have hcs := parse_const ⟨#[35, 32, 120, 10, 97, 32, 35]⟩ 4 parK_rem (by decide) w
  have hp1 : ∀ W, _ := fun W => parse_say s W hs47
  obtain ⟨A1, A2, hA2l, hA2n, ha1, ha2⟩ := cats s hsz
  have hp2 : ∀ W, _ := fun W => parse_say A2 W (by omega)
  rw [hA2l] at hp2
  clear hA2l hA2n
  unfold Says3 at hp1 hp2
  have hll := llen s
  by_cases hlg : 1900 < s.size
  · have hgt : (1900 : Int) < s.size := by omega
    generalize par s.data.toList = R1 at *
    generalize par (ahead ++ s.data.toList ++ post) = R2 at *
    obtain ⟨x1, n1, e1⟩ := R1
    obtain ⟨x2, n2, e2⟩ := R2
    simp only at hp1 hp2
    clear hll hlg hs47
    go_enter Tryd.func7, Tryd.ntmps7
    go_wp2_with (first
      | (go_at_call 8; refine hcs.mono ?_; clear hcs; rintro r W1 ⟨⟨y1, n9, rfl⟩, hb1⟩; have K1 : Hid (Below w.heap.size w (W1.alloc (.cells #[.int .i64 4, .int .u64 (wd y1.S 0), .int .u64 (wd y1.S 1), .int .u64 (wd y1.S 2), .int .u64 (wd y1.S 3), .string y1.t, .slice y1.a y1.kids.length y1.c] 27))) := hb1.alloc hb1.size _; clear hb1)
      | (go_at_call 8; refine (hp1 _).mono ?_; clear hp1; rintro r W2 ⟨⟨y2, rfl, _, _⟩, hb2⟩; have K2 : Hid (Below w.heap.size w (W2.alloc (.cells #[.int .i64 y2.k, .int .u64 (wd y2.S 0), .int .u64 (wd y2.S 1), .int .u64 (wd y2.S 2), .int .u64 (wd y2.S 3), .string y2.t, .slice y2.a y2.kids.length y2.c] 27))) := (K1.out.trans (hb2.mono K1.out.size)).alloc (Nat.le_trans K1.out.size hb2.size) _; clear hb2)
      | (go_at_call 8; refine (hp2 _).mono ?_; clear hp2; rintro r W3 ⟨⟨y3, rfl, _, _⟩, hb3⟩; have K3 : Hid (Below w.heap.size w (W3.alloc (.cells #[.int .i64 y3.k, .int .u64 (wd y3.S 0), .int .u64 (wd y3.S 1), .int .u64 (wd y3.S 2), .int .u64 (wd y3.S 3), .string y3.t, .slice y3.a y3.kids.length y3.c] 27))) := (K2.out.trans (hb3.mono K2.out.size)).alloc (Nat.le_trans K2.out.size hb3.size) _; clear hb3))
    go_ret
    exact ⟨rfl, K3.out⟩
  · have hgt : ¬ (1900 : Int) < s.size := by omega
    have hpp := par_post s.data.toList (by omega)
    have hpc := par_cases s.data.toList
    rw [hll] at hpp hpc
    generalize par s.data.toList = R1 at *
    generalize par (ahead ++ s.data.toList ++ post) = R2 at *
    obtain ⟨x1, n1, e1⟩ := R1
    obtain ⟨x2, n2, e2⟩ := R2
    simp only at hp1 hp2 hpp hpc
    obtain ⟨rfl, rfl, hor⟩ := hpp
    have hn : 0 ≤ n1 ∧ n1 ≤ s.size := by rcases hpc with h | h <;> omega
    have hsm : Hid (∀ (y z : Ex) W, y.In W.heap.size W → z.In W.heap.size W → y.er = z.er → Calls Tryd.prog 10 #[y.val, z.val] W fun r w' => r = .returned (.bool true) ∧ Below W.heap.size W w') := fun y z W hy hz he => by
      have := same_any y z W hy hz
      rw [(same_er y z).2 he] at this
      exact this
    have hee : (e2 != e2) = false := by simp
    have g : (e2 != 4) = true ∨ ((e2 != 4) = false ∧ (n2 == n1 + 7) = true) ∨ ((e2 != 4) = false ∧ (n2 == n1 + 7) = false ∧ (n1 == (s.size : Int)) = true ∧ (n2 == (s.size : Int) + 12) = true) := by
      by_cases h4 : e2 = 4
      · right
        have e4 : (e2 != 4) = false := by rw [h4]; rfl
        by_cases h7 : n2 = n1 + 7
        · left; exact ⟨e4, by simpa using h7⟩
        · right
          rcases hor with h | h | h
          · exact absurd h4 h
          · exact absurd h h7
          · exact ⟨e4, by simpa using h7, by simpa using h.1, by simpa using h.2⟩
      · left; simpa using h4
    obtain ⟨hn0, hn1⟩ := hn
    clear hor hpc hll hlg hs47
    rcases g with g1 | ⟨g1, g2⟩ | ⟨g1, g2, g3, g4⟩
    all_goals
      go_enter Tryd.func7, Tryd.ntmps7
      go_wp2_with (first
        | (go_at_call 8; refine hcs.mono ?_; clear hcs; rintro r W1 ⟨⟨y1, n9, rfl⟩, hb1⟩; have K1 : Hid (Below w.heap.size w (W1.alloc (.cells #[.int .i64 4, .int .u64 (wd y1.S 0), .int .u64 (wd y1.S 1), .int .u64 (wd y1.S 2), .int .u64 (wd y1.S 3), .string y1.t, .slice y1.a y1.kids.length y1.c] 27))) := hb1.alloc hb1.size _; clear hb1)
        | (go_at_call 8; refine (hp1 _).mono ?_; clear hp1; rintro r W2 ⟨⟨y, rfl, hye, hyo⟩, hb2⟩; have K2 : Hid (Below w.heap.size w W2) := K1.out.trans (hb2.mono K1.out.size); have H2 : Hid (Hd y W2 (W2.alloc (.cells y.cells 27))) := ⟨BoxN.new W2 27 y.cells, (Below.refl W2.heap.size W2).alloc (Nat.le_refl _) _⟩; have I2 : Hid (y.In W2.heap.size W2) := hyo.inn; have HYE : Hid _ := hye; clear hyo hb2 hye)
        | (go_at_call 8; refine (hp2 _).mono ?_; clear hp2; rintro r W4 ⟨⟨z, rfl, hze, hzo⟩, hb4⟩; simp only [← cells_eq] at hb4; have K4 : Hid (Hd y W2 (W4.alloc (.cells z.cells 27))) := (H2.out.next hb4).alloc _; have I4 : Hid (z.In (W4.alloc (.cells z.cells 27)).heap.size (W4.alloc (.cells z.cells 27))) := (Ex.Ou.gr (World.grownBy_alloc W4 (.cells z.cells 27) none) (Q := fun _ => True) (fun _ _ _ => ⟨by simp, trivial⟩) hzo).inn; have cE4 := K4.out.1.cell; have cZ4 := (BoxN.new W4 27 z.cells).cell; have hs4 := hsm.out y z _ (I2.out.grow K4.out.2) I4.out (by rw [HYE.out, hze]); rw [val_eq, val_eq] at hs4; simp only [cells_eq] at hs4 cE4 cZ4; clear hzo hb4)
        | (go_at_call 10; refine hs4.mono ?_; clear hs4; rintro r W5 ⟨rfl, hb5⟩; simp only [← cells_eq] at hb5; have K5 : Hid (Hd y W2 W5) := Hd.next (e := y) (w := W2) K4.out hb5; clear hb5))
      go_ret
      exact ⟨rfl, K2.out.trans (K5.out.2.mono K2.out.size)⟩
end Go.Proofs.YtbeohmcmphebhaaDoor
