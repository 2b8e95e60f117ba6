import Derived.Test.YtbeohmcmphebhaaDoorXTake
namespace Go.Proofs.YtbeohmcmphebhaaDoor
open Go.RowKit
open Ex.Ou (OuL)
set_option linter.unusedVariables false
theorem u8_eq (a b : UInt8) : ((a.toNat : Int) != (b.toNat : Int)) = decide (a ≠ b) := by
  rw [Bool.eq_iff_iff]
  simp only [bne_iff_ne, ne_eq, decide_eq_true_eq]
  constructor
  · intro h e; exact h (by rw [e])
  · intro h e; exact h (UInt8.toNat_inj.1 (by omega))
set_option maxHeartbeats 1000000 in
theorem want_any (T : ByteArray) (B : Nat) (t : Tk) (c : UInt8) (w : World) (hB : BoxN w B 60 (pcells T t)) :
    Calls Tryd.prog 25 #[.pointer (some ⟨B, 0, none⟩), .int .u8 (c.toNat : Int)] w fun e w' => (if t.k = c then e = .returned (.tuple #[]) else e = thrown T.size t.s) ∧ w' = w := by
  have hc := hB.cell
  rw [pcells_eq] at hc
  have h := u8_eq t.k c
  by_cases hk : t.k = c
  · simp only [if_pos hk]
    rw [decide_eq_false (by simp [hk])] at h
    clear hk hB
    go_enter Tryd.func25, Tryd.ntmps25
    go_wp2_with fail
    refine bodyPost_end (results_none rfl _ _ _) rfl ⟨rfl, rfl⟩
  · simp only [if_neg hk]
    rw [decide_eq_true hk] at h
    clear hk hB
    go_enter Tryd.func25, Tryd.ntmps25
    go_wp2_with fail
    exact ⟨rfl, rfl, rfl⟩
theorem begins_any (c : UInt8) (w : World) : Calls Tryd.prog 53 #[.int .u8 (c.toNat : Int)] w fun e w' => e = .returned (.bool (begins c)) ∧ w' = w := by
  have hc := c.toNat_lt
  have h : begins c = (decide (c.toNat = 1) || (decide (c.toNat = 40) || (decide (c.toNat = 38) || decide (c.toNat = 33)))) := by
    have e : ∀ k : Nat, k < 256 → (c == UInt8.ofNat k) = decide (c.toNat = k) := fun k hk => by
      rw [Bool.eq_iff_iff, beq_iff_eq, decide_eq_true_eq]
      constructor
      · intro e; rw [e]; simp; omega
      · intro e; apply UInt8.toNat_inj.1; rw [e]; simp; omega
    unfold begins
    rw [← e 1 (by omega), ← e 40 (by omega), ← e 38 (by omega), ← e 33 (by omega)]
    simp [Bool.or_assoc]
  rw [h]
  generalize c.toNat = n at *
  clear h
  go_enter Tryd.func53, Tryd.ntmps53
  go_wp2_with fail
  all_goals (go_ret; refine ⟨ret_bool ?_, rfl⟩; try (rw [Bool.eq_iff_iff]; simp; omega))
theorem kindB_any (c : UInt8) (w : World) : Calls Tryd.prog 74 #[.int .u8 (c.toNat : Int)] w fun e w' => e = .returned (.int .i64 (kindB c)) ∧ w' = w := by
  have e : ∀ k : Nat, k < 256 → (c = UInt8.ofNat k ↔ c.toNat = k) := fun k hk => by
    constructor
    · intro e; rw [e]; simp; omega
    · intro e; apply UInt8.toNat_inj.1; rw [e]; simp; omega
  have h : kindB c = if c.toNat = 63 then 9 else if c.toNat = 42 then 7 else if c.toNat = 43 then 8 else 0 := by
    unfold kindB
    have e1 := e 63 (by omega)
    have e2 := e 42 (by omega)
    have e3 := e 43 (by omega)
    simp only [show UInt8.ofNat 63 = 63 from rfl, show UInt8.ofNat 42 = 42 from rfl, show UInt8.ofNat 43 = 43 from rfl] at e1 e2 e3
    simp only [e1, e2, e3]
  rw [h]
  generalize c.toNat = n at *
  clear h e
  by_cases h1 : n = 63
  · subst h1
    go_enter Tryd.func74, Tryd.ntmps74
    go_wp2_with fail
    go_ret
    exact ⟨rfl, rfl⟩
  · have g1 : ((n : Int) == 63) = false := by rw [beq_eq_false_iff_ne]; omega
    rw [if_neg h1]
    by_cases h2 : n = 42
    · subst h2
      go_enter Tryd.func74, Tryd.ntmps74
      go_wp2_with fail
      go_ret
      exact ⟨rfl, rfl⟩
    · have g2 : ((n : Int) == 42) = false := by rw [beq_eq_false_iff_ne]; omega
      rw [if_neg h2]
      by_cases h3 : n = 43
      · subst h3
        go_enter Tryd.func74, Tryd.ntmps74
        go_wp2_with fail
        go_ret
        exact ⟨rfl, rfl⟩
      · have g3 : ((n : Int) == 43) = false := by rw [beq_eq_false_iff_ne]; omega
        rw [if_neg h3]
        go_enter Tryd.func74, Tryd.ntmps74
        go_wp2_with fail
        go_ret
        exact ⟨rfl, rfl⟩
/-- Something that reads as x, and lies in blocks from N on. -/
def Says (N : Nat) (w' : World) (x : Ex) (e : Ending) : Prop := ∃ y : Ex, e = .returned (.agg #[.int .i64 y.k, .int .u64 (wd y.S 0), .int .u64 (wd y.S 1), .int .u64 (wd y.S 2), .int .u64 (wd y.S 3), .string y.t, .slice y.a y.kids.length y.c]) ∧ y.er = x ∧ y.Ou (N ≤ ·) w'
def SaysP (P : Nat → Prop) (w' : World) (x : Ex) (e : Ending) : Prop := ∃ y : Ex, e = .returned (.agg #[.int .i64 y.k, .int .u64 (wd y.S 0), .int .u64 (wd y.S 1), .int .u64 (wd y.S 2), .int .u64 (wd y.S 3), .string y.t, .slice y.a y.kids.length y.c]) ∧ y.er = x ∧ y.Ou P w'
set_option maxHeartbeats 1000000 in
theorem around_gen (P : Nat → Prop) (k : Int) (x : Ex) (w : World) (hP : ∀ b, w.heap.size ≤ b → P b) (hx : x.Ou P w) :
    Calls Tryd.prog 72 #[.int .i64 k, .agg #[.int .i64 x.k, .int .u64 (wd x.S 0), .int .u64 (wd x.S 1), .int .u64 (wd x.S 2), .int .u64 (wd x.S 3), .string x.t, .slice x.a x.kids.length x.c]] w fun e w' => SaysP P w' (nd k [x.er]) e ∧ Below w.heap.size w w' := by
  have hb0 := ((((Below.refl w.heap.size w).alloc (Nat.le_refl _) (.cells x.cells 27)).alloc (by simp) (.cells z7 27)).alloc (by simp; omega) (.cells x.cells 27))
  have bZ := (BoxN.new (w.alloc (.cells x.cells 27)) 27 z7).alloc (.cells x.cells 27)
  have bK := BoxN.new ((w.alloc (.cells x.cells 27)).alloc (.cells z7 27)) 27 x.cells
  have hsz : ((w.alloc (.cells x.cells 27)).alloc (.cells z7 27)).heap.size = w.heap.size + 1 + 1 := by simp
  have hsz1 : (w.alloc (.cells x.cells 27)).heap.size = w.heap.size + 1 := by simp
  rw [hsz] at bK
  rw [hsz1] at bZ
  have HX : Hid (∀ w', Below w.heap.size w w' → BoxN w' (w.heap.size + 1 + 1) 27 x.cells → SaysP P w' (nd k [x.er]) (.returned (.agg #[.int .i64 k, .int .u64 0, .int .u64 0, .int .u64 0, .int .u64 0, .string ⟨#[]⟩, .slice (some ⟨w.heap.size + 1 + 1, 0, none⟩) 1 1]))) := by
    intro w' hb hbx
    refine ⟨.mk k 0#256 ⟨#[]⟩ (some ⟨w.heap.size + 1 + 1, 0, none⟩) 1 [x], by simp [Ex.k, Ex.S, Ex.t, Ex.a, Ex.c, Ex.kids, wd_zero], by rw [er_eq]; rfl, ?_⟩
    rw [Ex.Ou]
    refine ⟨⟨by simp, by decide⟩, ouL_of _ 0 fun j y hy => ?_⟩
    have hj : j = 0 := by
      have := (List.getElem?_eq_some_iff.1 hy).1
      simp at this; exact this
    subst hj
    simp at hy
    subst hy
    refine ⟨⟨_, _, rfl, hP _ (by omega), fun m hm => ?_⟩, hx.below hb (fun _ h => h)⟩
    have := hbx.cell m
    simpa using this
  rw [cells_eq] at bZ bK hb0
  clear hsz hsz1 hx
  go_enter Tryd.func72, Tryd.ntmps72
  go_wp2_with (refine wpList_store_box rfl 27 _ _ rfl (w.heap.size + 1) _ rfl rfl z7 bZ Tryd.info27 rfl (by simp [Value.oneCell']) ?_; intro w2 hx2 hg2; have hc := hx2.cell)
  have hbw2 : Below w.heap.size w w2 := hb0.grown hg2 hb0.size (fun k e => by cases e; omega)
  exact bodyPost_ret (by simp [results, Tryd.results72, go_sem, hc]) rfl ⟨HX.out w2 hbw2 (bK.kept hg2 (by simp)), hbw2⟩
theorem around_any (B : Nat) (k : Int) (x : Ex) (w : World) (hB : B ≤ w.heap.size) (hx : x.Ou (B ≤ ·) w) :
    Calls Tryd.prog 72 #[.int .i64 k, .agg #[.int .i64 x.k, .int .u64 (wd x.S 0), .int .u64 (wd x.S 1), .int .u64 (wd x.S 2), .int .u64 (wd x.S 3), .string x.t, .slice x.a x.kids.length x.c]] w fun e w' => Says B w' (nd k [x.er]) e ∧ Below w.heap.size w w' :=
  around_gen (B ≤ ·) k x w (fun b hb => Nat.le_trans hB hb) hx
/-- A slice of expressions that lies in blocks from B on. -/
def KL (B : Nat) (W : World) (g cap : Nat) (l : List Ex) : Prop := B ≤ g ∧ l.length ≤ 2000000 ∧ ∀ j x, l[j]? = some x → (∀ m, m < 7 → W.cell? ⟨g, j * 7 + m, none⟩ = x.cells[m]?) ∧ x.Ou (B ≤ ·) W
theorem KL.ex {B : Nat} {W : World} {g cap : Nat} {l : List Ex} (h : KL B W g cap l) (k : Int) : (Ex.mk k 0#256 ⟨#[]⟩ (some ⟨g, 0, none⟩) cap l).Ou (B ≤ ·) W := by
  rw [Ex.Ou]
  refine ⟨⟨by have := h.2.1; omega, by decide⟩, ouL_of _ 0 fun j x hx => ?_⟩
  have := h.2.2 j x hx
  exact ⟨⟨g, 0, rfl, h.1, fun m hm => by rw [← this.1 m hm]; congr 2; omega⟩, this.2⟩
set_option maxHeartbeats 1000000 in
theorem together_any (B : Nat) (k : Int) (g cap : Nat) (l : List Ex) (w : World) (hB : B ≤ w.heap.size) (hl : KL B w g cap l) (h1 : 1 ≤ l.length) :
    Calls Tryd.prog 27 #[.int .i64 k, .slice (some ⟨g, 0, none⟩) l.length cap] w fun e w' => Says B w' (gath k (l.map Ex.er)) e ∧ Below w.heap.size w w' := by
  have hb0 := (Below.refl w.heap.size w).alloc (Nat.le_refl _) (.cells z7 27)
  have bZ := BoxN.new w 27 z7
  have hmax := hl.2.1
  by_cases hone : l.length = 1
  · obtain ⟨x, rfl⟩ : ∃ x, l = [x] := by
      match l, hone with
      | [x], _ => exact ⟨x, rfl⟩
    have hx := hl.2.2 0 x rfl
    have hgl : g < w.heap.size := by
      obtain ⟨v, hv⟩ := cells7 x 0 (by omega)
      exact cell_lt ((hx.1 0 (by omega)).trans hv)
    have HX : Hid (∀ w', Below w.heap.size w w' → Says B w' (gath k ([x].map Ex.er)) (.returned (.agg #[.int .i64 x.k, .int .u64 (wd x.S 0), .int .u64 (wd x.S 1), .int .u64 (wd x.S 2), .int .u64 (wd x.S 3), .string x.t, .slice x.a x.kids.length x.c]))) :=
      fun w' hb => ⟨x, rfl, rfl, hx.2.below hb (fun _ h => h)⟩
    have hcx : ∀ m, m < 7 → (w.alloc (.cells z7 27)).cell? ⟨g, m, none⟩ = x.cells[m]? := fun m hm => by
      rw [hb0.cell (p := ⟨g, m, none⟩) hgl]
      have := hx.1 m hm
      simpa using this
    have c0 := hcx 0 (by omega)
    have c1 := hcx 1 (by omega)
    have c2 := hcx 2 (by omega)
    have c3 := hcx 3 (by omega)
    have c4 := hcx 4 (by omega)
    have c5 := hcx 5 (by omega)
    have c6 := hcx 6 (by omega)
    simp only [cells_eq] at c0 c1 c2 c3 c4 c5 c6
    simp only [List.getElem?_toArray, List.getElem?_cons_zero, List.getElem?_cons_succ, z7_eq] at c0 c1 c2 c3 c4 c5 c6
    clear hcx hx hl h1 hone hmax
    rw [show ([x] : List Ex).length = 1 from rfl]
    go_enter Tryd.func27, Tryd.ntmps27
    go_wp2_with (refine wpList_store_box rfl 27 _ _ rfl w.heap.size _ rfl rfl z7 bZ Tryd.info27 rfl (by simp [Value.oneCell']) ?_; intro w2 hx2 hg2; have hc := hx2.cell)
    have hbw2 : Below w.heap.size w w2 := hb0.grown hg2 hb0.size (fun k e => by cases e; omega)
    exact bodyPost_ret (by simp [results, Tryd.results27, go_sem, hc]) rfl ⟨HX.out w2 hbw2, hbw2⟩
  · have HX : Hid (∀ w', Below w.heap.size w w' → Says B w' (gath k (l.map Ex.er)) (.returned (.agg #[.int .i64 k, .int .u64 0, .int .u64 0, .int .u64 0, .int .u64 0, .string ⟨#[]⟩, .slice (some ⟨g, 0, none⟩) l.length cap]))) :=
      fun w' hb => ⟨.mk k 0#256 ⟨#[]⟩ (some ⟨g, 0, none⟩) cap l, by simp [Ex.k, Ex.S, Ex.t, Ex.a, Ex.c, Ex.kids, wd_zero], by
        rw [er_eq]
        unfold gath
        rw [if_neg (by simpa using hone)]
        rfl, (hl.ex k).below hb (fun _ h => h)⟩
    have g1 : ((l.length : Int) == 1) = false := by rw [beq_eq_false_iff_ne]; omega
    clear hl
    go_enter Tryd.func27, Tryd.ntmps27
    go_wp2_with (refine wpList_store_box rfl 27 _ _ rfl w.heap.size _ rfl rfl z7 bZ Tryd.info27 rfl (by simp [Value.oneCell']) ?_; intro w2 hx2 hg2; have hc := hx2.cell)
    have hbw2 : Below w.heap.size w w2 := hb0.grown hg2 hb0.size (fun k e => by cases e; omega)
    exact bodyPost_ret (by simp [results, Tryd.results27, go_sem, hc]) rfl ⟨HX.out w2 hbw2, hbw2⟩
end Go.Proofs.YtbeohmcmphebhaaDoor
