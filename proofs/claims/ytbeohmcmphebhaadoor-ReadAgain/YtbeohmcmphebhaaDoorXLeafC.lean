import Derived.Test.YtbeohmcmphebhaaDoorXLeaf
import Derived.Test.YtbeohmcmphebhaaDoorXQRange
import Derived.Test.YtbeohmcmphebhaaDoorXFull
import Derived.Test.YtbeohmcmphebhaaDoorXBox
namespace Go.Proofs.YtbeohmcmphebhaaDoor
open Go.RowKit
set_option linter.unusedVariables false
theorem nd0_val (k : Int) : (nd k []).val = .agg #[.int .i64 k, .int .u64 0, .int .u64 0, .int .u64 0, .int .u64 0, .string ⟨#[]⟩, .slice none 0 0] := by
  simp [val_eq, nd, Ex.k, Ex.S, Ex.t, Ex.a, Ex.c, Ex.kids, wd_zero]
theorem lfT_val (k : Int) (t : List UInt8) : (lfT k t).val = .agg #[.int .i64 k, .int .u64 0, .int .u64 0, .int .u64 0, .int .u64 0, .string ⟨t.toArray⟩, .slice none 0 0] := by
  simp [val_eq, lfT, Ex.k, Ex.S, Ex.t, Ex.a, Ex.c, Ex.kids, wd_zero]
theorem lfS_val (S : BitVec 256) : (lfS S).val = .agg #[.int .i64 2, .int .u64 (wd S 0), .int .u64 (wd S 1), .int .u64 (wd S 2), .int .u64 (wd S 3), .string ⟨#[]⟩, .slice none 0 0] := by
  simp [val_eq, lfS, Ex.k, Ex.S, Ex.t, Ex.a, Ex.c, Ex.kids]
set_option maxHeartbeats 1000000 in
theorem literalAt_any (s : ByteArray) (w : World) (hs : s.size ≤ 2000000) :
    Calls Tryd.prog 90 #[.string s] w fun e w' => e = .returned (.tuple #[(if uT (unlit [39, 34, 92] s.data.toList) = [] then nd 1 [] else lfT 3 (uT (unlit [39, 34, 92] s.data.toList))).val, .int .i64 (uN (unlit [39, 34, 92] s.data.toList))]) ∧ Below w.heap.size w w' := by
  have hun := unlit_any s (w.alloc (.cells z7 27)) (by omega)
  have HK : Hid (∀ {W1 : World}, Below (w.alloc (.cells z7 27)).heap.size (w.alloc (.cells z7 27)) W1 → BoxN W1 w.heap.size 27 z7 ∧ Below w.heap.size w W1) := fun hb => ⟨(BoxN.new w 27 z7).below hb (by simp), ((Below.refl w.heap.size w).alloc (Nat.le_refl _) _).trans (hb.mono (by simp))⟩
  generalize unlit [39, 34, 92] s.data.toList = R at *
  generalize uT R = t at *
  rw [z7_eq] at hun
  by_cases ht : t = []
  · subst ht
    rw [if_pos rfl, nd0_val]
    go_enter Tryd.func90, Tryd.ntmps90
    go_wp2_with (first
      | (go_at_call 101; refine hun.mono ?_; rintro e w1 ⟨rfl, hb⟩; rw [← z7_eq] at hb; have k1 := HK.out hb; clear hb HK hun)
      | (refine wpList_store_box rfl 27 _ _ rfl w.heap.size _ rfl rfl _ k1.1 Tryd.info27 rfl (by simp [Value.oneCell']) ?_; intro w2 hx2 hg2; have hc := hx2.cell))
    exact bodyPost_ret (v := .tuple #[.agg #[.int .i64 1, .int .u64 0, .int .u64 0, .int .u64 0, .int .u64 0, .string ⟨#[]⟩, .slice none 0 0], .int .i64 (uN R)]) (by simp [results, Tryd.results90, go_sem, hc]) rfl ⟨rfl, k1.2.grown hg2 k1.2.size (fun k e => by cases e; exact Nat.le_refl _)⟩
  · rw [if_neg ht, lfT_val]
    have hne : t.isEmpty = false := by simpa using ht
    go_enter Tryd.func90, Tryd.ntmps90
    go_wp2_with (first
      | (go_at_call 101; refine hun.mono ?_; rintro e w1 ⟨rfl, hb⟩; rw [← z7_eq] at hb; have k1 := HK.out hb; clear hb HK hun)
      | (refine wpList_store_box rfl 27 _ _ rfl w.heap.size _ rfl rfl _ k1.1 Tryd.info27 rfl (by simp [Value.oneCell']) ?_; intro w2 hx2 hg2; have hc := hx2.cell))
    exact bodyPost_ret (v := .tuple #[.agg #[.int .i64 3, .int .u64 0, .int .u64 0, .int .u64 0, .int .u64 0, .string ⟨t.toArray⟩, .slice none 0 0], .int .i64 (uN R)]) (by simp [results, Tryd.results90, go_sem, hc]) rfl ⟨rfl, k1.2.grown hg2 k1.2.size (fun k e => by cases e; exact Nat.le_refl _)⟩

theorem clone73 (s : ByteArray) (w : World) (hs : s.size ≤ 2000000) : Calls Tryd.prog 92 #[.string s] w fun e w' => e = .returned (.string s) ∧ Below w.heap.size w w' := by
  have hc := Tryd.stringslite_Clone s w (by omega)
  go_enter Tryd.func92, Tryd.ntmps92
  go_wp2_with (go_at_call 105; refine hc.mono ?_; rintro e w1 ⟨rfl, hb⟩)
  go_ret
  exact ⟨rfl, hb⟩
def lets : ByteArray := ⟨#[97, 98, 99, 100, 101, 102, 103, 104, 105, 106, 107, 108, 109, 110, 111, 112, 113, 114, 115, 116, 117, 118, 119, 120, 121, 122, 65, 66, 67, 68, 69, 70, 71, 72, 73, 74, 75, 76, 77, 78, 79, 80, 81, 82, 83, 84, 85, 86, 87, 88, 89, 90]⟩
def letds : ByteArray := ⟨#[97, 98, 99, 100, 101, 102, 103, 104, 105, 106, 107, 108, 109, 110, 111, 112, 113, 114, 115, 116, 117, 118, 119, 120, 121, 122, 65, 66, 67, 68, 69, 70, 71, 72, 73, 74, 75, 76, 77, 78, 79, 80, 81, 82, 83, 84, 85, 86, 87, 88, 89, 90, 48, 49, 50, 51, 52, 53, 54, 55, 56, 57]⟩
theorem lets_fin : ∀ k : Fin 256, decide (0 ≤ Lib.indexByte lets.data.toList (UInt8.ofNat k.val)) = isL (k.val : Int) := by decide +kernel
theorem lets_is (c : UInt8) : decide (0 ≤ Lib.indexByte lets.data.toList c) = isL (c.toNat : Int) := by
  have := lets_fin ⟨c.toNat, c.toNat_lt⟩
  simpa using this
theorem letds_fin : ∀ k : Fin 256, letds.data.toList.contains (UInt8.ofNat k.val) = okc (UInt8.ofNat k.val) := by decide +kernel
theorem letds_is (c : UInt8) : letds.data.toList.contains c = okc c := by
  have := letds_fin ⟨c.toNat, c.toNat_lt⟩
  simpa using this
theorem letds_all : letds.data.toList.all (fun b => decide (b.toNat < 128)) = true := by decide +kernel
theorem letds_ascii (j : Nat) (b : UInt8) (h : letds.data.toList[j]? = some b) : b.toNat < 128 := by
  have := List.all_eq_true.1 letds_all b (List.mem_of_getElem? h)
  simpa using this
theorem rng_full : rng 0 255 = BitVec.allOnes 256 := by
  apply set_ext; intro i hi
  rw [rng_bit _ _ i hi, BitVec.getLsbD_allOnes]
  simp [hi]; omega
theorem take_drop_len (p : UInt8 → Bool) (l : List UInt8) : (l.takeWhile p).length + (l.dropWhile p).length = l.length := by
  have := congrArg List.length (List.takeWhile_append_dropWhile (p := p) (l := l))
  rwa [List.length_append] at this
theorem cut_take (s : ByteArray) (n : Nat) : (s.extract 0 n).data.toList = s.data.toList.take n := by
  rw [ByteArray.data_extract, Array.toList_extract, List.extract_eq_take_drop]; simp
theorem take_takeWhile (p : UInt8 → Bool) (l : List UInt8) : l.take (l.takeWhile p).length = l.takeWhile p := by
  have h := List.takeWhile_append_dropWhile (p := p) (l := l)
  have h2 : (l.takeWhile p ++ l.dropWhile p).take (l.takeWhile p).length = l.takeWhile p := List.take_left
  rwa [h] at h2
end Go.Proofs.YtbeohmcmphebhaaDoor
namespace Go.Proofs.YtbeohmcmphebhaaDoor
open Go.RowKit
set_option linter.unusedVariables false
/-- What leafAt hands back: what a leaf says, and its length, 0 if there is none. -/
def LeafR (l : List UInt8) (e : Ending) : Prop := ∃ (x : Ex) (n : Nat), e = .returned (.tuple #[x.val, .int .i64 n]) ∧ (match leafAt l with | some y => x = y.1 ∧ n = y.2 | none => n = 0)
theorem head_of (s : ByteArray) (h : 0 < s.size) : s.data.toList.headD 0 = s[0] := by rw [list_head s h]; rfl
theorem leaf_A (l : List UInt8) (h : l.headD 0 = 39 ∨ l.headD 0 = 34) : LeafR l (.returned (.tuple #[(if uT (unlit [39, 34, 92] l) = [] then nd 1 [] else lfT 3 (uT (unlit [39, 34, 92] l))).val, .int .i64 (uN (unlit [39, 34, 92] l))])) := by
  unfold LeafR
  have hl : leafAt l = (unlit [39, 34, 92] l).map fun x => (if x.1 = [] then nd 1 [] else lfT 3 x.1, x.2) := by unfold leafAt; rw [if_pos h]
  rw [hl]
  cases unlit [39, 34, 92] l with
  | none => exact ⟨_, 0, rfl, rfl⟩
  | some x => exact ⟨_, x.2, rfl, rfl, rfl⟩
theorem leaf_B (l : List UInt8) (h : l.headD 0 = 91) : LeafR l (.returned (.tuple #[(lfS (kS (unclass l))).val, .int .i64 (kN (unclass l))])) := by
  unfold LeafR
  have hl : leafAt l = (unclass l).map fun x => (lfS x.1, x.2) := by unfold leafAt; rw [if_neg (by rw [h]; decide), if_pos h]
  rw [hl]
  cases unclass l with
  | none => exact ⟨_, 0, rfl, rfl⟩
  | some x => exact ⟨_, x.2, rfl, rfl, rfl⟩
theorem leaf_C (l : List UInt8) (h : l.headD 0 = 46) : LeafR l (.returned (.tuple #[(lfS (BitVec.allOnes 256)).val, .int .i64 1])) := by
  unfold LeafR
  have hl : leafAt l = some (lfS (BitVec.allOnes 256), 1) := by unfold leafAt; rw [if_neg (by rw [h]; decide), if_neg (by rw [h]; decide), if_pos h]
  rw [hl]
  exact ⟨_, 1, rfl, rfl, rfl⟩
theorem isL_not {c : UInt8} (h : isL (c.toNat : Int) = true) : c ≠ 39 ∧ c ≠ 34 ∧ c ≠ 91 ∧ c ≠ 46 := by
  refine ⟨?_, ?_, ?_, ?_⟩ <;> (rintro rfl; revert h; decide)
theorem leaf_D (l : List UInt8) (h : isL ((l.headD 0).toNat : Int) = true) : LeafR l (.returned (.tuple #[(lfT 4 (l.takeWhile okc)).val, .int .i64 (l.takeWhile okc).length])) := by
  unfold LeafR
  obtain ⟨h1, h2, h3, h4⟩ := isL_not h
  have hl : leafAt l = some (lfT 4 (l.takeWhile okc), (l.takeWhile okc).length) := by unfold leafAt; rw [if_neg (by rintro (e | e) <;> contradiction), if_neg h3, if_neg h4, if_pos h]
  rw [hl]
  exact ⟨_, _, rfl, rfl, rfl⟩
theorem leaf_E (l : List UInt8) (h1 : ¬ (l.headD 0 = 39 ∨ l.headD 0 = 34)) (h3 : ¬ l.headD 0 = 91) (h4 : ¬ l.headD 0 = 46) (h : isL ((l.headD 0).toNat : Int) = false) : LeafR l (.returned (.tuple #[(nd 0 []).val, .int .i64 0])) := by
  unfold LeafR
  have hl : leafAt l = none := by unfold leafAt; rw [if_neg h1, if_neg h3, if_neg h4, if_neg (by rw [h]; decide)]
  rw [hl]
  exact ⟨_, 0, rfl, rfl⟩
theorem ne_int {c : UInt8} {k : Nat} (h : ¬ c = UInt8.ofNat k) (hk : k < 256) : ((c.toNat : Int) == (k : Int)) = false := by
  rw [beq_eq_false_iff_ne]
  intro e
  apply h
  apply UInt8.toNat_inj.1
  simp only [UInt8.toNat_ofNat']
  omega
set_option maxRecDepth 20000 in
set_option maxHeartbeats 2000000 in
theorem leafAt_any (s : ByteArray) (w : World) (hs : s.size ≤ 2000000) (h0 : 0 < s.size) :
    Calls Tryd.prog 71 #[.string s] w fun e w' => LeafR s.data.toList e ∧ Below w.heap.size w w' := by
  have hhd := head_of s h0
  have h0' : (0 : Int) < s.size := by omega
  have bZ := BoxN.new w 27 z7
  have hZ := (Below.refl w.heap.size w).alloc (Nat.le_refl _) (.cells z7 27)
  have HK : Hid (∀ {W1 : World}, Below (w.alloc (.cells z7 27)).heap.size (w.alloc (.cells z7 27)) W1 → BoxN W1 w.heap.size 27 z7 ∧ Below w.heap.size w W1) := fun hb => ⟨bZ.below hb (by simp), hZ.trans (hb.mono (by simp))⟩
  have HR : Hid (∀ {W1 W2 : World}, Below w.heap.size w W1 → W1.grownBy W2 (some w.heap.size) → Below w.heap.size w W2) := fun hb hg => hb.grown hg hb.size (fun k e => by cases e; exact Nat.le_refl _)
  by_cases hA : s[0] = 39 ∨ s[0] = 34
  · have HA : Hid _ := leaf_A s.data.toList (by rw [hhd]; exact hA)
    have hlt := literalAt_any s (w.alloc (.cells z7 27)) hs
    rw [z7_eq] at hlt
    generalize (if uT (unlit [39, 34, 92] s.data.toList) = [] then nd 1 [] else lfT 3 (uT (unlit [39, 34, 92] s.data.toList))) = x at *
    generalize uN (unlit [39, 34, 92] s.data.toList) = n at *
    rw [val_eq] at hlt HA
    have hor : ((s[0].toNat : Int) == 39) = true ∨ (((s[0].toNat : Int) == 39) = false ∧ ((s[0].toNat : Int) == 34) = true) := by
      rcases hA with h | h
      · left; rw [h]; rfl
      · right; rw [h]; exact ⟨rfl, rfl⟩
    clear hA hhd bZ hZ
    rcases hor with hx | ⟨hx, hy⟩
    all_goals
      go_enter Tryd.func71, Tryd.ntmps71
      go_wp2_with (first
        | (go_at_call 90; refine hlt.mono ?_; rintro e w1 ⟨rfl, hb⟩; rw [← z7_eq] at hb; have k1 := HK.out hb; clear hb HK hlt)
        | (refine wpList_store_box rfl 27 _ _ rfl w.heap.size _ rfl rfl _ k1.1 Tryd.info27 rfl (by simp [Value.oneCell']) ?_; intro w2 hx2 hg2; have hc := hx2.cell))
      exact bodyPost_ret (by simp [results, Tryd.results71, go_sem, hc]) rfl ⟨HA.out, HR.out k1.2 hg2⟩
  have e39 : ((s[0].toNat : Int) == 39) = false := ne_int (fun e => hA (.inl e)) (by decide)
  have e34 : ((s[0].toNat : Int) == 34) = false := ne_int (fun e => hA (.inr e)) (by decide)
  by_cases hB : s[0] = 91
  · have HA : Hid _ := leaf_B s.data.toList (by rw [hhd]; exact hB)
    have hun := unclass_any s (w.alloc (.cells z7 27)) (by unfold maxLen; omega)
    rw [z7_eq] at hun
    generalize unclass s.data.toList = R at *
    generalize kS R = S at *
    generalize kN R = n at *
    generalize kE R = er at *
    rw [lfS_val] at HA
    have e91 : ((s[0].toNat : Int) == 91) = true := by rw [hB]; rfl
    clear hA hhd hB bZ hZ
    go_enter Tryd.func71, Tryd.ntmps71
    go_wp2_with (first
      | (go_at_call 91; refine hun.mono ?_; rintro e w1 ⟨rfl, hb⟩; rw [← z7_eq] at hb; have k1 := HK.out hb; clear hb HK hun)
      | (refine wpList_store_box rfl 27 _ _ rfl w.heap.size _ rfl rfl z7 (by first | exact k1.1 | exact k1.1.alloc _) Tryd.info27 rfl (by simp [Value.oneCell']) ?_; intro w2 hx2 hg2; have hc := hx2.cell))
    exact bodyPost_ret (by simp [results, Tryd.results71, go_sem, hc]) rfl ⟨HA.out, HR.out (k1.2.alloc k1.2.size _) hg2⟩
  have e91 : ((s[0].toNat : Int) == 91) = false := ne_int hB (by decide)
  by_cases hC : s[0] = 46
  · have HA : Hid _ := leaf_C s.data.toList (by rw [hhd]; exact hC)
    have hrg := range_any 0 255 (w.alloc (.cells z7 27))
    rw [rng_full] at hrg
    rw [z7_eq] at hrg
    generalize BitVec.allOnes 256 = S at *
    rw [lfS_val] at HA
    have e46 : ((s[0].toNat : Int) == 46) = true := by rw [hC]; rfl
    clear hA hhd hB hC bZ hZ
    go_enter Tryd.func71, Tryd.ntmps71
    go_wp2_with (first
      | (go_at_call 81; refine hrg.mono ?_; rintro e w1 ⟨rfl, hb⟩; rw [← z7_eq] at hb; have k1 := HK.out hb; clear hb HK hrg)
      | (refine wpList_store_box rfl 27 _ _ rfl w.heap.size _ rfl rfl z7 (by first | exact k1.1 | exact k1.1.alloc _) Tryd.info27 rfl (by simp [Value.oneCell']) ?_; intro w2 hx2 hg2; have hc := hx2.cell))
    exact bodyPost_ret (by simp [results, Tryd.results71, go_sem, hc]) rfl ⟨HA.out, HR.out k1.2 hg2⟩
  have e46 : ((s[0].toNat : Int) == 46) = false := ne_int hC (by decide)
  have hix := Tryd.strings_IndexByte lets (s[0].toNat : Int) (w.alloc (.cells z7 27))
  have hcc : ((s[0].toNat : Int).toNat.toUInt8) = s[0] := by simp
  rw [hcc] at hix
  have hgd := lets_is s[0]
  generalize Lib.indexByte lets.data.toList s[0] = q at *
  clear hcc
  rw [show lets = ⟨#[97, 98, 99, 100, 101, 102, 103, 104, 105, 106, 107, 108, 109, 110, 111, 112, 113, 114, 115, 116, 117, 118, 119, 120, 121, 122, 65, 66, 67, 68, 69, 70, 71, 72, 73, 74, 75, 76, 77, 78, 79, 80, 81, 82, 83, 84, 85, 86, 87, 88, 89, 90]⟩ from rfl, z7_eq] at hix
  cases hD : isL (s[0].toNat : Int) with
  | false =>
    have HA : Hid _ := leaf_E s.data.toList (by rw [hhd]; exact hA) (by rw [hhd]; exact hB) (by rw [hhd]; exact hC) (by rw [hhd]; exact hD)
    rw [nd0_val] at HA
    rw [hD] at hgd
    have k1 := HK.out (Below.refl _ _)
    clear hA hhd hB hC hD bZ hZ HK
    go_enter Tryd.func71, Tryd.ntmps71
    go_wp2_with (first
      | (go_at_call 35; refine hix.mono ?_; rintro e w1 ⟨rfl, rfl⟩)
      | (refine wpList_store_box rfl 27 _ _ rfl w.heap.size _ rfl rfl z7 (by first | exact k1.1 | exact k1.1.alloc _) Tryd.info27 rfl (by simp [Value.oneCell']) ?_; intro w2 hx2 hg2; have hc := hx2.cell))
    exact bodyPost_ret (by simp [results, Tryd.results71, go_sem, hc]) rfl ⟨HA.out, HR.out k1.2 hg2⟩
  | true =>
    have HA : Hid _ := leaf_D s.data.toList (by rw [hhd]; exact hD)
    rw [lfT_val] at HA
    rw [hD] at hgd
    have htr := trimLeft_any s letds okc letds_is (w.alloc (.cells z7 27)) (by unfold maxLen; omega) (by decide) (by decide) letds_ascii
    rw [show letds = ⟨#[97, 98, 99, 100, 101, 102, 103, 104, 105, 106, 107, 108, 109, 110, 111, 112, 113, 114, 115, 116, 117, 118, 119, 120, 121, 122, 65, 66, 67, 68, 69, 70, 71, 72, 73, 74, 75, 76, 77, 78, 79, 80, 81, 82, 83, 84, 85, 86, 87, 88, 89, 90, 48, 49, 50, 51, 52, 53, 54, 55, 56, 57]⟩ from rfl, z7_eq] at htr
    have htl := take_drop_len okc s.data.toList
    have hsl := llen s
    have hdl := mk_size (s.data.toList.dropWhile okc)
    have hcut : s.extract 0 (s.data.toList.takeWhile okc).length = ⟨(s.data.toList.takeWhile okc).toArray⟩ := by
      rw [← ba_of_list (s.extract 0 _), cut_take, take_takeWhile]
    generalize (⟨(s.data.toList.dropWhile okc).toArray⟩ : ByteArray) = D at *
    generalize (s.data.toList.takeWhile okc).length = m at *
    generalize (s.data.toList.takeWhile okc) = N at *
    generalize (s.data.toList.dropWhile okc).length = dl at *
    rw [hsl] at htl
    have hm : (s.size : Int) - (D.size : Int) = m := by omega
    have hm2 : (m : Int) ≤ s.size := by omega
    have hcl : ∀ W, _ := fun W => clone73 (s.extract 0 m) W (by simp; omega)
    rw [hcut] at hcl
    have HCUT : Hid (s.extract 0 m = ⟨N.toArray⟩) := hcut
    clear hA hhd hB hC hD bZ hZ hdl htl hsl hcut
    go_enter Tryd.func71, Tryd.ntmps71
    go_wp2_with (first
      | (go_at_call 35; refine hix.mono ?_; rintro e w1 ⟨rfl, rfl⟩)
      | (go_at_call 88; refine htr.mono ?_; rintro e w1 ⟨rfl, hb⟩; rw [← z7_eq] at hb; have k0 := HK.out hb; clear hb HK htr)
      | (go_at_call 92; rw [HCUT.out]; refine (hcl _).mono ?_; rintro e w3 ⟨rfl, hb⟩; have k1 := And.intro (k0.1.below hb k0.1.lt) (k0.2.trans (hb.mono k0.2.size)); clear hb)
      | (refine wpList_store_box rfl 27 _ _ rfl w.heap.size _ rfl rfl z7 (by first | exact k1.1 | exact k1.1.alloc _) Tryd.info27 rfl (by simp [Value.oneCell']) ?_; intro w2 hx2 hg2; have hc := hx2.cell))
    exact bodyPost_ret (by simp [results, Tryd.results71, go_sem, hc]) rfl ⟨HA.out, HR.out k1.2 hg2⟩
end Go.Proofs.YtbeohmcmphebhaaDoor
