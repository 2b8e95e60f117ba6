import Derived.Test.YtcapoommjeifjaaParts
namespace Go.Proofs.Ytcapoommjeifjaa
open Go.RowKit
open Ex.size (sizeL)
set_option linter.unusedVariables false
theorem notNo_val (b : Nat) : (notNo b).val = .agg #[.int .i64 11, .int .u64 0, .int .u64 0, .int .u64 0, .int .u64 0, .string ByteArray.empty, .slice (some ⟨b, 0, none⟩) 1 1] := by
  simp [val_eq, notNo, Ex.k, Ex.S, Ex.t, Ex.a, Ex.c, Ex.kids, wd_zero]
theorem no_size (w : World) : Calls Try.prog 12 #[.agg #[.int .i64 11, .int .u64 0, .int .u64 0, .int .u64 0, .int .u64 0, .string ByteArray.empty, .slice (some ⟨w.heap.size, 0, none⟩) 1 1]] (w.alloc (.cells #[.int .i64 1, .int .u64 0, .int .u64 0, .int .u64 0, .int .u64 0, .string ByteArray.empty, .slice none 0 0] 27))
    fun r W' => r = .returned (.tuple #[.int .i64 2, .int .i64 0]) ∧ Below w.heap.size w W' := by
  have h := size_any (notNo w.heap.size) (w.alloc (.cells #[.int .i64 1, .int .u64 0, .int .u64 0, .int .u64 0, .int .u64 0, .string ByteArray.empty, .slice none 0 0] 27)) ((notNo_in w).mono (by simp))
  rw [notNo_check, notNo_size, notNo_val] at h
  exact h.mono fun r W' ⟨h1, h2⟩ => ⟨h1, ((Below.refl _ w).alloc (Nat.le_refl _) _).trans (h2.mono (by simp))⟩
set_option maxRecDepth 20000 in
set_option maxHeartbeats 2000000 in
theorem parts_any (e : Ex) (w : World) (hin : e.In w.heap.size w) :
    Calls Try.prog 6 #[e.val] w fun r W' => r = .returned (.bool true) ∧ Below w.heap.size w W' := by
  have hA := (Below.refl w.heap.size w).alloc (Nat.le_refl _) (.cells e.cells 27)
  have bE := BoxN.new w 27 e.cells
  have hno := no_size (w.alloc (.cells e.cells 27))
  have hsz : (w.alloc (.cells e.cells 27)).heap.size = w.heap.size + 1 := by simp
  rw [hsz] at hno
  have HE : Hid (∀ {W1 : World}, Below (w.heap.size + 1) (w.alloc (.cells e.cells 27)) W1 → BoxN W1 w.heap.size 27 e.cells ∧ Below w.heap.size w W1) := fun hb => ⟨bE.below hb (by simp), hA.trans (hb.mono (by simp))⟩
  clear hA bE hsz
  rw [cells_eq] at hno
  rw [val_eq]
  go_enter Try.func6, Try.ntmps6
  go_wp2_with (go_at_call 12; refine hno.mono ?_; rintro r W1 ⟨rfl, hb1⟩; rw [← cells_eq] at hb1; have bE1 := HE.out hb1; have cE1 := bE1.1.cell; rw [cells_eq] at cE1; clear hb1 hno HE)
  obtain ⟨bE1, hB1⟩ := bE1
  have hsz1 := size_any e W1 (hin.grow hB1)
  have HE : Hid (∀ {W2 : World}, Below W1.heap.size W1 W2 → BoxN W2 w.heap.size 27 e.cells ∧ Below w.heap.size w W2) := fun hb => ⟨bE1.below hb bE1.lt, hB1.trans (hb.mono hB1.size)⟩
  rw [val_eq] at hsz1
  clear bE1
  by_cases h0 : check e = 0
  · rw [h0, sizeR_ok e h0] at hsz1
    have h60 : e.size ≤ 60 := ((check_zero e).1 h0).1
    have HS : Hid (e.size = 1 + sizeL e.kids) := size_eq e
    have hpos : 1 ≤ e.size := by have := HS.out; omega
    have hK : Hid (∀ x ∈ e.kids, check x = 0) := fun x hx => check_kid e x hx h0
    have hHin : Hid (e.In w.heap.size w) := hin
    have hlen := hin.len
    clear h0 hin
    generalize e.size = z at *
    go_wp2_with (go_at_call 12; refine hsz1.mono ?_; rintro r W2 ⟨rfl, hb2⟩; have bE2 := HE.out hb2; have cE2 := bE2.1.cell; rw [cells_eq] at cE2; clear hb2 hsz1 HE cE1)
    obtain ⟨bE2, hB2⟩ := bE2
    clear cE2 hB1 bE2
    go_loopw [5, 44] (fun p q wr => ∃ i m : Nat, p = .int .i64 (m : Int) ∧ q = .int .i64 i ∧ m ≤ 60 ∧ i ≤ e.kids.length ∧ Hid (m + 1 + sizeL (e.kids.take i) = z) ∧ Below w.heap.size w wr) (fun _ q _ => e.kids.length - (intOf q).toNat)
    case atStart => exact ⟨0, z - 1, congrArg (Value.int .i64) (by omega), rfl, by omega, Nat.zero_le _, by unfold Hid; simp [sizeL]; omega, hB2⟩
    case round =>
      obtain ⟨i, m, rfl, rfl, hm, hi, HM, hB3⟩ := hrel
      clear hB2
      by_cases hend : i = e.kids.length
      · have hm0 : m = 0 := by
          have h1 := HM.out
          have h2 := HS.out
          subst hend
          rw [List.take_length] at h1
          omega
        subst hend hm0
        go_wp2_with fail
        go_ret
        exact ⟨rfl, hB3⟩
      · have hlt : i < e.kids.length := by omega
        clear hend
        obtain ⟨x, hx⟩ : ∃ x, e.kids[i]? = some x := ⟨_, List.getElem?_eq_getElem hlt⟩
        have hin4 := hHin.out.below hB3
        obtain ⟨⟨b, o, ha, hb, hc⟩, hinx⟩ := hin4.kid hx
        have c0 := hc 0 (by omega)
        have c1 := hc 1 (by omega)
        have c2 := hc 2 (by omega)
        have c3 := hc 3 (by omega)
        have c4 := hc 4 (by omega)
        have c5 := hc 5 (by omega)
        have c6 := hc 6 (by omega)
        rw [cells_eq] at c0 c1 c2 c3 c4 c5 c6
        simp only [List.getElem?_toArray, List.getElem?_cons_zero, List.getElem?_cons_succ, Nat.add_zero] at c0 c1 c2 c3 c4 c5 c6
        clear hc hin4
        rw [ha]
        have hc0 : check x = 0 := hK.out x (List.mem_of_getElem? hx)
        have hA4 := hB3.alloc hB3.size (.cells x.cells 27)
        have hszx := size_any x _ ((hinx.below ((Below.refl _ wr).alloc hB3.size (.cells x.cells 27))).mono hA4.size)
        rw [sizeR_ok x hc0, hc0, cells_eq, val_eq] at hszx
        have HT := sizeL_take e.kids i x hx
        have HN : ∃ q : Nat, x.size = q ∧ Hid (q ≤ m ∧ m - q + 1 + sizeL (e.kids.take (i + 1)) = z) := ⟨x.size, rfl, by
          have h1 := HM.out
          have h2 := HS.out
          have h3 : sizeL (e.kids.take (i + 1)) ≤ sizeL e.kids := by
            have := sizeL_append (e.kids.take (i + 1)) (e.kids.drop (i + 1))
            rw [List.take_append_drop] at this
            omega
          unfold Hid
          omega⟩
        obtain ⟨q, hq, HN⟩ := HN
        rw [hq] at hszx
        have hqm : q ≤ m := HN.out.1
        have HB4 : Hid (∀ {W4 : World}, Below (wr.alloc (.cells x.cells 27)).heap.size (wr.alloc (.cells x.cells 27)) W4 → Below w.heap.size w W4) := fun h => hA4.trans (h.mono hA4.size)
        clear HT hq hc0 hA4 hB3 hx hinx ha HM
        go_wp2_with (go_at_call 12; refine hszx.mono ?_; clear hszx; rintro r W4 ⟨rfl, hb4⟩)
        rw [← cells_eq] at hb4
        have hB5 := HB4.out hb4
        exact ⟨⟨i + 1, m - q, congrArg (Value.int .i64) (by omega), by go_num, by omega, by omega, HN.out.2, hB5⟩, by simp [intOf]; omega⟩
  · have g : (check e != 0) = true := by simpa using h0
    rw [sizeR_bad e h0] at hsz1
    go_wp2_with (first
      | (go_at_call 12; refine hsz1.mono ?_; rintro r W2 ⟨rfl, hb2⟩; have bE2 := HE.out hb2; have cE2 := bE2.1.cell; rw [cells_eq] at cE2; have hck := check_any e W2 (hin.grow bE2.2); rw [val_eq] at hck; clear hb2 hsz1 HE cE1)
      | (go_at_call 10; refine hck.mono ?_; rintro r W3 ⟨rfl, hb3⟩))
    go_ret
    exact ⟨by simp, bE2.2.trans (hb3.mono bE2.2.size)⟩
end Go.Proofs.Ytcapoommjeifjaa
