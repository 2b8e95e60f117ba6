import Derived.Test.YtbeohmcmphebhaaGreatDoorXLeaf
import Derived.Test.YtbeohmcmphebhaaGreatDoorXUOps
import Derived.Test.YtbeohmcmphebhaaGreatDoorXApartB
import Derived.Test.YtbeohmcmphebhaaGreatDoorXApartC
import Derived.WalkLawsBesides
import Derived.Lib.BufferMore
import Derived.Lib.BufferWrite
namespace Go.Proofs.YtbeohmcmphebhaaGreatDoor
open Go.RowKit
set_option linter.unusedVariables false
theorem nd0_val (k : Int) : (nd k []).val = .agg #[.int .i64 k, .int .u64 0, .int .u64 0, .int .u64 0, .int .u64 0, .string ⟨#[]⟩, .slice none 0 0] := by
  simp [val_eq, nd, Ex.k, Ex.S, Ex.t, Ex.a, Ex.c, Ex.kids, wd_zero]
theorem lfT_val (k : Int) (t : List UInt8) : (lfT k t).val = .agg #[.int .i64 k, .int .u64 0, .int .u64 0, .int .u64 0, .int .u64 0, .string ⟨t.toArray⟩, .slice none 0 0] := by
  simp [val_eq, lfT, Ex.k, Ex.S, Ex.t, Ex.a, Ex.c, Ex.kids, wd_zero]
theorem lfS_val (S : BitVec 256) : (lfS S).val = .agg #[.int .i64 2, .int .u64 (wd S 0), .int .u64 (wd S 1), .int .u64 (wd S 2), .int .u64 (wd S 3), .string ⟨#[]⟩, .slice none 0 0] := by
  simp [val_eq, lfS, Ex.k, Ex.S, Ex.t, Ex.a, Ex.c, Ex.kids]
set_option maxHeartbeats 1000000 in
theorem literalAt_any (s : ByteArray) (w : World) (hs : s.size ≤ 2000000) :
    Calls Tryz.prog 106 #[.string s] w fun e w' => e = .returned (.tuple #[(if uT (unlit [39, 34, 92] s.data.toList) = [] then nd 1 [] else lfT 3 (uT (unlit [39, 34, 92] s.data.toList))).val, .int .i64 (uN (unlit [39, 34, 92] s.data.toList))]) ∧ Below w.heap.size w w' := by
  have hun := unlit_any s (w.alloc (.cells z7 43)) (by omega)
  have HK : Hid (∀ {W1 : World}, Below (w.alloc (.cells z7 43)).heap.size (w.alloc (.cells z7 43)) W1 → BoxN W1 w.heap.size 43 z7 ∧ Below w.heap.size w W1) := fun hb => ⟨(BoxN.new w 43 z7).below hb (by simp), ((Below.refl w.heap.size w).alloc (Nat.le_refl _) _).trans (hb.mono (by simp))⟩
  generalize unlit [39, 34, 92] s.data.toList = R at *
  generalize uT R = t at *
  rw [z7_eq] at hun
  by_cases ht : t = []
  · subst ht
    rw [if_pos rfl, nd0_val]
    go_enter Tryz.func106, Tryz.ntmps106
    go_wp2_with (first
      | (go_at_call 118; refine hun.mono ?_; rintro e w1 ⟨rfl, hb⟩; rw [← z7_eq] at hb; have k1 := HK.out hb; clear hb HK hun)
      | (refine wpList_store_box rfl 43 _ _ rfl w.heap.size _ rfl rfl _ k1.1 Tryz.info43 rfl (by simp [Value.oneCell']) ?_; intro w2 hx2 hg2; have hc := hx2.cell))
    exact bodyPost_ret (v := .tuple #[.agg #[.int .i64 1, .int .u64 0, .int .u64 0, .int .u64 0, .int .u64 0, .string ⟨#[]⟩, .slice none 0 0], .int .i64 (uN R)]) (by simp [results, Tryz.results106, go_sem, hc]) rfl ⟨rfl, k1.2.grown hg2 k1.2.size (fun k e => by cases e; exact Nat.le_refl _)⟩
  · rw [if_neg ht, lfT_val]
    have hne : t.isEmpty = false := by simpa using ht
    go_enter Tryz.func106, Tryz.ntmps106
    go_wp2_with (first
      | (go_at_call 118; refine hun.mono ?_; rintro e w1 ⟨rfl, hb⟩; rw [← z7_eq] at hb; have k1 := HK.out hb; clear hb HK hun)
      | (refine wpList_store_box rfl 43 _ _ rfl w.heap.size _ rfl rfl _ k1.1 Tryz.info43 rfl (by simp [Value.oneCell']) ?_; intro w2 hx2 hg2; have hc := hx2.cell))
    exact bodyPost_ret (v := .tuple #[.agg #[.int .i64 3, .int .u64 0, .int .u64 0, .int .u64 0, .int .u64 0, .string ⟨t.toArray⟩, .slice none 0 0], .int .i64 (uN R)]) (by simp [results, Tryz.results106, go_sem, hc]) rfl ⟨rfl, k1.2.grown hg2 k1.2.size (fun k e => by cases e; exact Nat.le_refl _)⟩

theorem clone73 (s : ByteArray) (w : World) (hs : s.size ≤ 2000000) : Calls Tryz.prog 91 #[.string s] w fun e w' => e = .returned (.string s) ∧ Below w.heap.size w w' := by
  have hc := Tryz.stringslite_Clone s w (by omega)
  go_enter Tryz.func91, Tryz.ntmps91
  go_wp2_with (go_at_call 103; refine hc.mono ?_; rintro e w1 ⟨rfl, hb⟩)
  go_ret
  exact ⟨rfl, hb⟩
def lets : ByteArray := ⟨#[97, 98, 99, 100, 101, 102, 103, 104, 105, 106, 107, 108, 109, 110, 111, 112, 113, 114, 115, 116, 117, 118, 119, 120, 121, 122, 65, 66, 67, 68, 69, 70, 71, 72, 73, 74, 75, 76, 77, 78, 79, 80, 81, 82, 83, 84, 85, 86, 87, 88, 89, 90]⟩
def letds : ByteArray := ⟨#[97, 98, 99, 100, 101, 102, 103, 104, 105, 106, 107, 108, 109, 110, 111, 112, 113, 114, 115, 116, 117, 118, 119, 120, 121, 122, 65, 66, 67, 68, 69, 70, 71, 72, 73, 74, 75, 76, 77, 78, 79, 80, 81, 82, 83, 84, 85, 86, 87, 88, 89, 90, 48, 49, 50, 51, 52, 53, 54, 55, 56, 57]⟩
theorem lets_fin : ∀ k : Fin 256, decide (0 ≤ Lib.indexByte lets.data.toList (UInt8.ofNat k.val)) = isL (k.val : Int) := by decide +kernel
theorem lets_is (c : UInt8) : decide (0 ≤ Lib.indexByte lets.data.toList c) = isL (c.toNat : Int) := by
  have := lets_fin ⟨c.toNat, c.toNat_lt⟩
  simpa using this
theorem letds_fin : ∀ k : Fin 256, letds.data.toList.contains (UInt8.ofNat k.val) = okc (UInt8.ofNat k.val) := by decide +kernel
theorem letds_is (c : UInt8) : letds.data.toList.contains c = okc c := by
  have := letds_fin ⟨c.toNat, c.toNat_lt⟩
  simpa using this
theorem letds_all : letds.data.toList.all (fun b => decide (b.toNat < 128)) = true := by decide +kernel
theorem letds_ascii (j : Nat) (b : UInt8) (h : letds.data.toList[j]? = some b) : b.toNat < 128 := by
  have := List.all_eq_true.1 letds_all b (List.mem_of_getElem? h)
  simpa using this
theorem rng_full : rng 0 255 = BitVec.allOnes 256 := by
  apply set_ext; intro i hi
  rw [rng_bit _ _ i hi, BitVec.getLsbD_allOnes]
  simp [hi]; omega
theorem take_drop_len (p : UInt8 → Bool) (l : List UInt8) : (l.takeWhile p).length + (l.dropWhile p).length = l.length := by
  have := congrArg List.length (List.takeWhile_append_dropWhile (p := p) (l := l))
  rwa [List.length_append] at this
theorem cut_take (s : ByteArray) (n : Nat) : (s.extract 0 n).data.toList = s.data.toList.take n := by
  rw [ByteArray.data_extract, Array.toList_extract, List.extract_eq_take_drop]; simp
theorem take_takeWhile (p : UInt8 → Bool) (l : List UInt8) : l.take (l.takeWhile p).length = l.takeWhile p := by
  have h := List.takeWhile_append_dropWhile (p := p) (l := l)
  have h2 : (l.takeWhile p ++ l.dropWhile p).take (l.takeWhile p).length = l.takeWhile p := List.take_left
  rwa [h] at h2
end Go.Proofs.YtbeohmcmphebhaaGreatDoor
namespace Go.Proofs.YtbeohmcmphebhaaGreatDoor
open Go.RowKit
set_option linter.unusedVariables false
/-- What leafAt hands back: what a leaf says, and its length, 0 if there is none. -/
def LeafR (l : List UInt8) (e : Ending) : Prop := ∃ (x : Ex) (n : Nat), e = .returned (.tuple #[x.val, .int .i64 n]) ∧ (match leafAt l with | some y => x = y.1 ∧ n = y.2 | none => n = 0)
theorem head_of (s : ByteArray) (h : 0 < s.size) : s.data.toList.headD 0 = s[0] := by rw [list_head s h]; rfl
theorem leaf_A (l : List UInt8) (h : l.headD 0 = 39 ∨ l.headD 0 = 34) : LeafR l (.returned (.tuple #[(if uT (unlit [39, 34, 92] l) = [] then nd 1 [] else lfT 3 (uT (unlit [39, 34, 92] l))).val, .int .i64 (uN (unlit [39, 34, 92] l))])) := by
  unfold LeafR
  have hl : leafAt l = (unlit [39, 34, 92] l).map fun x => (if x.1 = [] then nd 1 [] else lfT 3 x.1, x.2) := by unfold leafAt; rw [if_pos h]
  rw [hl]
  cases unlit [39, 34, 92] l with
  | none => exact ⟨_, 0, rfl, rfl⟩
  | some x => exact ⟨_, x.2, rfl, rfl, rfl⟩
theorem leaf_B (l : List UInt8) (h : l.headD 0 = 91) : LeafR l (.returned (.tuple #[(lfS (kS (unclass l))).val, .int .i64 (kN (unclass l))])) := by
  unfold LeafR
  have hl : leafAt l = (unclass l).map fun x => (lfS x.1, x.2) := by unfold leafAt; rw [if_neg (by rw [h]; decide), if_pos h]
  rw [hl]
  cases unclass l with
  | none => exact ⟨_, 0, rfl, rfl⟩
  | some x => exact ⟨_, x.2, rfl, rfl, rfl⟩
theorem leaf_C (l : List UInt8) (h : l.headD 0 = 46) : LeafR l (.returned (.tuple #[(lfS (BitVec.allOnes 256)).val, .int .i64 1])) := by
  unfold LeafR
  have hl : leafAt l = some (lfS (BitVec.allOnes 256), 1) := by unfold leafAt; rw [if_neg (by rw [h]; decide), if_neg (by rw [h]; decide), if_pos h]
  rw [hl]
  exact ⟨_, 1, rfl, rfl, rfl⟩
theorem isL_not {c : UInt8} (h : isL (c.toNat : Int) = true) : c ≠ 39 ∧ c ≠ 34 ∧ c ≠ 91 ∧ c ≠ 46 := by
  refine ⟨?_, ?_, ?_, ?_⟩ <;> (rintro rfl; revert h; decide)
theorem leaf_D (l : List UInt8) (h : isL ((l.headD 0).toNat : Int) = true) : LeafR l (.returned (.tuple #[(lfT 4 (l.takeWhile okc)).val, .int .i64 (l.takeWhile okc).length])) := by
  unfold LeafR
  obtain ⟨h1, h2, h3, h4⟩ := isL_not h
  have hl : leafAt l = some (lfT 4 (l.takeWhile okc), (l.takeWhile okc).length) := by unfold leafAt; rw [if_neg (by rintro (e | e) <;> contradiction), if_neg h3, if_neg h4, if_pos h]
  rw [hl]
  exact ⟨_, _, rfl, rfl, rfl⟩
theorem leaf_E (l : List UInt8) (h1 : ¬ (l.headD 0 = 39 ∨ l.headD 0 = 34)) (h3 : ¬ l.headD 0 = 91) (h4 : ¬ l.headD 0 = 46) (h : isL ((l.headD 0).toNat : Int) = false) : LeafR l (.returned (.tuple #[(nd 0 []).val, .int .i64 0])) := by
  unfold LeafR
  have hl : leafAt l = none := by unfold leafAt; rw [if_neg h1, if_neg h3, if_neg h4, if_neg (by rw [h]; decide)]
  rw [hl]
  exact ⟨_, 0, rfl, rfl⟩
theorem ne_int {c : UInt8} {k : Nat} (h : ¬ c = UInt8.ofNat k) (hk : k < 256) : ((c.toNat : Int) == (k : Int)) = false := by
  rw [beq_eq_false_iff_ne]
  intro e
  apply h
  apply UInt8.toNat_inj.1
  simp only [UInt8.toNat_ofNat']
  omega
set_option maxRecDepth 20000 in
set_option maxHeartbeats 2000000 in
theorem leafAt_any (s : ByteArray) (w : World) (hs : s.size ≤ 2000000) (h0 : 0 < s.size) :
    Calls Tryz.prog 93 #[.string s] w fun e w' => LeafR s.data.toList e ∧ Below w.heap.size w w' := by
  have hhd := head_of s h0
  have h0' : (0 : Int) < s.size := by omega
  have bZ := BoxN.new w 43 z7
  have hZ := (Below.refl w.heap.size w).alloc (Nat.le_refl _) (.cells z7 43)
  have HK : Hid (∀ {W1 : World}, Below (w.alloc (.cells z7 43)).heap.size (w.alloc (.cells z7 43)) W1 → BoxN W1 w.heap.size 43 z7 ∧ Below w.heap.size w W1) := fun hb => ⟨bZ.below hb (by simp), hZ.trans (hb.mono (by simp))⟩
  have HR : Hid (∀ {W1 W2 : World}, Below w.heap.size w W1 → W1.grownBy W2 (some w.heap.size) → Below w.heap.size w W2) := fun hb hg => hb.grown hg hb.size (fun k e => by cases e; exact Nat.le_refl _)
  by_cases hA : s[0] = 39 ∨ s[0] = 34
  · have HA : Hid _ := leaf_A s.data.toList (by rw [hhd]; exact hA)
    have hlt := literalAt_any s (w.alloc (.cells z7 43)) hs
    rw [z7_eq] at hlt
    generalize (if uT (unlit [39, 34, 92] s.data.toList) = [] then nd 1 [] else lfT 3 (uT (unlit [39, 34, 92] s.data.toList))) = x at *
    generalize uN (unlit [39, 34, 92] s.data.toList) = n at *
    rw [val_eq] at hlt HA
    have hor : ((s[0].toNat : Int) == 39) = true ∨ (((s[0].toNat : Int) == 39) = false ∧ ((s[0].toNat : Int) == 34) = true) := by
      rcases hA with h | h
      · left; rw [h]; rfl
      · right; rw [h]; exact ⟨rfl, rfl⟩
    clear hA hhd bZ hZ
    rcases hor with hx | ⟨hx, hy⟩
    all_goals
      go_enter Tryz.func93, Tryz.ntmps93
      go_wp2_with (first
        | (go_at_call 106; refine hlt.mono ?_; rintro e w1 ⟨rfl, hb⟩; rw [← z7_eq] at hb; have k1 := HK.out hb; clear hb HK hlt)
        | (refine wpList_store_box rfl 43 _ _ rfl w.heap.size _ rfl rfl _ k1.1 Tryz.info43 rfl (by simp [Value.oneCell']) ?_; intro w2 hx2 hg2; have hc := hx2.cell))
      exact bodyPost_ret (by simp [results, Tryz.results93, go_sem, hc]) rfl ⟨HA.out, HR.out k1.2 hg2⟩
  have e39 : ((s[0].toNat : Int) == 39) = false := ne_int (fun e => hA (.inl e)) (by decide)
  have e34 : ((s[0].toNat : Int) == 34) = false := ne_int (fun e => hA (.inr e)) (by decide)
  by_cases hB : s[0] = 91
  · have HA : Hid _ := leaf_B s.data.toList (by rw [hhd]; exact hB)
    have hun := unclass_any s (w.alloc (.cells z7 43)) (by unfold maxLen; omega)
    rw [z7_eq] at hun
    generalize unclass s.data.toList = R at *
    generalize kS R = S at *
    generalize kN R = n at *
    generalize kE R = er at *
    rw [lfS_val] at HA
    have e91 : ((s[0].toNat : Int) == 91) = true := by rw [hB]; rfl
    clear hA hhd hB bZ hZ
    go_enter Tryz.func93, Tryz.ntmps93
    go_wp2_with (first
      | (go_at_call 107; refine hun.mono ?_; rintro e w1 ⟨rfl, hb⟩; rw [← z7_eq] at hb; have k1 := HK.out hb; clear hb HK hun)
      | (refine wpList_store_box rfl 43 _ _ rfl w.heap.size _ rfl rfl z7 (by first | exact k1.1 | exact k1.1.alloc _) Tryz.info43 rfl (by simp [Value.oneCell']) ?_; intro w2 hx2 hg2; have hc := hx2.cell))
    exact bodyPost_ret (by simp [results, Tryz.results93, go_sem, hc]) rfl ⟨HA.out, HR.out (k1.2.alloc k1.2.size _) hg2⟩
  have e91 : ((s[0].toNat : Int) == 91) = false := ne_int hB (by decide)
  by_cases hC : s[0] = 46
  · have HA : Hid _ := leaf_C s.data.toList (by rw [hhd]; exact hC)
    have hrg := range_any 0 255 (w.alloc (.cells z7 43))
    rw [rng_full] at hrg
    rw [z7_eq] at hrg
    generalize BitVec.allOnes 256 = S at *
    rw [lfS_val] at HA
    have e46 : ((s[0].toNat : Int) == 46) = true := by rw [hC]; rfl
    clear hA hhd hB hC bZ hZ
    go_enter Tryz.func93, Tryz.ntmps93
    go_wp2_with (first
      | (go_at_call 98; refine hrg.mono ?_; rintro e w1 ⟨rfl, hb⟩; rw [← z7_eq] at hb; have k1 := HK.out hb; clear hb HK hrg)
      | (refine wpList_store_box rfl 43 _ _ rfl w.heap.size _ rfl rfl z7 (by first | exact k1.1 | exact k1.1.alloc _) Tryz.info43 rfl (by simp [Value.oneCell']) ?_; intro w2 hx2 hg2; have hc := hx2.cell))
    exact bodyPost_ret (by simp [results, Tryz.results93, go_sem, hc]) rfl ⟨HA.out, HR.out k1.2 hg2⟩
  have e46 : ((s[0].toNat : Int) == 46) = false := ne_int hC (by decide)
  have hix := Tryz.strings_IndexByte lets (s[0].toNat : Int) (w.alloc (.cells z7 43))
  have hcc : ((s[0].toNat : Int).toNat.toUInt8) = s[0] := by simp
  rw [hcc] at hix
  have hgd := lets_is s[0]
  generalize Lib.indexByte lets.data.toList s[0] = q at *
  clear hcc
  rw [show lets = ⟨#[97, 98, 99, 100, 101, 102, 103, 104, 105, 106, 107, 108, 109, 110, 111, 112, 113, 114, 115, 116, 117, 118, 119, 120, 121, 122, 65, 66, 67, 68, 69, 70, 71, 72, 73, 74, 75, 76, 77, 78, 79, 80, 81, 82, 83, 84, 85, 86, 87, 88, 89, 90]⟩ from rfl, z7_eq] at hix
  cases hD : isL (s[0].toNat : Int) with
  | false =>
    have HA : Hid _ := leaf_E s.data.toList (by rw [hhd]; exact hA) (by rw [hhd]; exact hB) (by rw [hhd]; exact hC) (by rw [hhd]; exact hD)
    rw [nd0_val] at HA
    rw [hD] at hgd
    have k1 := HK.out (Below.refl _ _)
    clear hA hhd hB hC hD bZ hZ HK
    go_enter Tryz.func93, Tryz.ntmps93
    go_wp2_with (first
      | (go_at_call 32; refine hix.mono ?_; rintro e w1 ⟨rfl, rfl⟩)
      | (refine wpList_store_box rfl 43 _ _ rfl w.heap.size _ rfl rfl z7 (by first | exact k1.1 | exact k1.1.alloc _) Tryz.info43 rfl (by simp [Value.oneCell']) ?_; intro w2 hx2 hg2; have hc := hx2.cell))
    exact bodyPost_ret (by simp [results, Tryz.results93, go_sem, hc]) rfl ⟨HA.out, HR.out k1.2 hg2⟩
  | true =>
    have HA : Hid _ := leaf_D s.data.toList (by rw [hhd]; exact hD)
    rw [lfT_val] at HA
    rw [hD] at hgd
    have htr := trimLeft_any s letds okc letds_is (w.alloc (.cells z7 43)) (by unfold maxLen; omega) (by decide) (by decide) letds_ascii
    rw [show letds = ⟨#[97, 98, 99, 100, 101, 102, 103, 104, 105, 106, 107, 108, 109, 110, 111, 112, 113, 114, 115, 116, 117, 118, 119, 120, 121, 122, 65, 66, 67, 68, 69, 70, 71, 72, 73, 74, 75, 76, 77, 78, 79, 80, 81, 82, 83, 84, 85, 86, 87, 88, 89, 90, 48, 49, 50, 51, 52, 53, 54, 55, 56, 57]⟩ from rfl, z7_eq] at htr
    have htl := take_drop_len okc s.data.toList
    have hsl := llen s
    have hdl := mk_size (s.data.toList.dropWhile okc)
    have hcut : s.extract 0 (s.data.toList.takeWhile okc).length = ⟨(s.data.toList.takeWhile okc).toArray⟩ := by
      rw [← ba_of_list (s.extract 0 _), cut_take, take_takeWhile]
    generalize (⟨(s.data.toList.dropWhile okc).toArray⟩ : ByteArray) = D at *
    generalize (s.data.toList.takeWhile okc).length = m at *
    generalize (s.data.toList.takeWhile okc) = N at *
    generalize (s.data.toList.dropWhile okc).length = dl at *
    rw [hsl] at htl
    have hm : (s.size : Int) - (D.size : Int) = m := by omega
    have hm2 : (m : Int) ≤ s.size := by omega
    have hcl : ∀ W, _ := fun W => clone73 (s.extract 0 m) W (by simp; omega)
    rw [hcut] at hcl
    have HCUT : Hid (s.extract 0 m = ⟨N.toArray⟩) := hcut
    clear hA hhd hB hC hD bZ hZ hdl htl hsl hcut
    go_enter Tryz.func93, Tryz.ntmps93
    go_wp2_with (first
      | (go_at_call 32; refine hix.mono ?_; rintro e w1 ⟨rfl, rfl⟩)
      | (go_at_call 104; refine htr.mono ?_; rintro e w1 ⟨rfl, hb⟩; rw [← z7_eq] at hb; have k0 := HK.out hb; clear hb HK htr)
      | (go_at_call 91; rw [HCUT.out]; refine (hcl _).mono ?_; rintro e w3 ⟨rfl, hb⟩; have k1 := And.intro (k0.1.below hb k0.1.lt) (k0.2.trans (hb.mono k0.2.size)); clear hb)
      | (refine wpList_store_box rfl 43 _ _ rfl w.heap.size _ rfl rfl z7 (by first | exact k1.1 | exact k1.1.alloc _) Tryz.info43 rfl (by simp [Value.oneCell']) ?_; intro w2 hx2 hg2; have hc := hx2.cell))
    exact bodyPost_ret (by simp [results, Tryz.results93, go_sem, hc]) rfl ⟨HA.out, HR.out k1.2 hg2⟩
end Go.Proofs.YtbeohmcmphebhaaGreatDoor
namespace Go.Proofs.YtbeohmcmphebhaaGreatDoor
open Go.RowKit
set_option linter.unusedVariables false
/-- A token's cells, in a text of n bytes. -/
def tcells (n : Nat) (t : Tk) : Array Value := #[.int .u8 (t.k.toNat : Int), .int .i64 ((n : Int) - t.s.length), .int .i64 ((n : Int) - t.r.length), .int .i64 t.e.k, .int .u64 (wd t.e.S 0), .int .u64 (wd t.e.S 1), .int .u64 (wd t.e.S 2), .int .u64 (wd t.e.S 3), .string t.e.t, .slice t.e.a t.e.kids.length t.e.c]
/-- What is thrown. -/
def thrown (n : Nat) (s : List UInt8) : Ending := .panicked [{ v := .iface 84 (.agg #[.int .i64 ((n : Int) - s.length)]), recovered := false }]
/-- What tokenFrom does. -/
def TokR (n : Nat) (t : Tk) (e : Ending) : Prop := if t.k = 3 then e = thrown n t.s else e = .returned (.agg (tcells n t))
def z10 : Array Value := #[.int .u8 0, .int .i64 0, .int .i64 0, .int .i64 0, .int .u64 0, .int .u64 0, .int .u64 0, .int .u64 0, .string ⟨#[]⟩, .slice none 0 0]
theorem z10_eq : z10 = #[.int .u8 0, .int .i64 0, .int .i64 0, .int .i64 0, .int .u64 0, .int .u64 0, .int .u64 0, .int .u64 0, .string ⟨#[]⟩, .slice none 0 0] := rfl
theorem tcells_nd (n : Nat) (k : UInt8) (s r : List UInt8) : tcells n ⟨k, s, r, nd 0 []⟩ = #[.int .u8 (k.toNat : Int), .int .i64 ((n : Int) - s.length), .int .i64 ((n : Int) - r.length), .int .i64 0, .int .u64 0, .int .u64 0, .int .u64 0, .int .u64 0, .string ⟨#[]⟩, .slice none 0 0] := by
  simp [tcells, nd, Ex.k, Ex.S, Ex.t, Ex.a, Ex.c, Ex.kids, wd_zero]
theorem tokR_nd (n : Nat) (t : Tk) (k : UInt8) (a b : Int) (ht : t.e = nd 0 []) (hk : t.k = k) (hk3 : k ≠ 3) (ha : a = (n : Int) - t.s.length) (hb : b = (n : Int) - t.r.length) :
    TokR n t (.returned (.agg #[.int .u8 (k.toNat : Int), .int .i64 a, .int .i64 b, .int .i64 0, .int .u64 0, .int .u64 0, .int .u64 0, .int .u64 0, .string ⟨#[]⟩, .slice none 0 0])) := by
  obtain ⟨tk, ts, tr, te⟩ := t
  simp only at ht hk ha hb
  subst ht hk ha hb
  unfold TokR
  rw [if_neg hk3, tcells_nd]
theorem sgs_fin : ∀ k : Fin 256, decide (0 ≤ Lib.indexByte [40, 41, 47, 38, 33, 63, 42, 43] (UInt8.ofNat k.val)) = isSg (UInt8.ofNat k.val) := by decide +kernel
theorem sgs_is (c : UInt8) : decide (0 ≤ Lib.indexByte [40, 41, 47, 38, 33, 63, 42, 43] c) = isSg c := by
  have := sgs_fin ⟨c.toNat, c.toNat_lt⟩
  simpa using this
theorem pre6045 (l : List UInt8) : Lib.hasPrefix l [60, 45] = decide (l.headD 0 = 60 ∧ (l.drop 1).headD 0 = 45) := by
  match l with
  | [] => rfl
  | [c] => rw [Bool.eq_iff_iff]; simp [Lib.hasPrefix, List.isPrefixOf]
  | c :: d :: r => rw [Bool.eq_iff_iff]; simp [Lib.hasPrefix, List.isPrefixOf]; exact ⟨fun h => ⟨h.1.symm, h.2.symm⟩, fun h => ⟨h.1.symm, h.2.symm⟩⟩
set_option maxRecDepth 20000 in
set_option maxHeartbeats 4000000 in
theorem tokenFrom_any (T : ByteArray) (k : Nat) (w : World) (hT : T.size ≤ 2000000) (hk : k ≤ T.size) :
    Calls Tryz.prog 73 #[.string T, .int .i64 k] w fun e w' => TokR T.size (tkB (T.data.toList.drop k)) e ∧ Below w.heap.size w w' := by
  have hk' : (k : Int) ≤ T.size := by omega
  have bZ := BoxN.new w 87 z10
  have hZ := (Below.refl w.heap.size w).alloc (Nat.le_refl _) (.cells z10 87)
  have HK : Hid (∀ {W1 : World}, Below (w.alloc (.cells z10 87)).heap.size (w.alloc (.cells z10 87)) W1 → BoxN W1 w.heap.size 87 z10 ∧ Below w.heap.size w W1) := fun hb => ⟨bZ.below hb (by simp), hZ.trans (hb.mono (by simp))⟩
  have HR : Hid (∀ {W1 W2 : World}, Below w.heap.size w W1 → W1.grownBy W2 (some w.heap.size) → Below w.heap.size w W2) := fun hb hg => hb.grown hg hb.size (fun k e => by cases e; exact Nat.le_refl _)
  have hbl := behindBlanks_any (T.extract k T.size) (w.alloc (.cells z10 87)) (by simp; omega)
  rw [cut_list, z10_eq] at hbl
  have hsl : (skip (T.data.toList.drop k)).length ≤ T.size := by
    have := (skip_suf (T.data.toList.drop k)).length_le
    rw [List.length_drop, llen] at this
    omega
  unfold tkB
  obtain ⟨s, hs⟩ : ∃ s : ByteArray, s = ⟨(skip (T.data.toList.drop k)).toArray⟩ := ⟨_, rfl⟩
  have hl : skip (T.data.toList.drop k) = s.data.toList := by rw [hs]
  rw [hl, ba_of_list] at hbl
  rw [hl, llen] at hsl
  rw [hl]
  clear hl hs bZ hZ
  have hsi : (s.size : Int) ≤ T.size := by omega
  have hln := llen s
  have hpf : ∀ W, _ := fun W => Tryz.strings_HasPrefix s ⟨#[60, 45]⟩ W
  rw [show (⟨#[60, 45]⟩ : ByteArray).data.toList = [60, 45] from rfl, pre6045] at hpf
  have hdec : ∀ b : Bool, True := fun _ => trivial
  by_cases h0 : s.size = 0
  · obtain rfl := empty_of s h0
    have HA : Hid (TokR T.size (tokB []) (.returned (.agg #[.int .u8 0, .int .i64 T.size, .int .i64 T.size, .int .i64 0, .int .u64 0, .int .u64 0, .int .u64 0, .int .u64 0, .string ⟨#[]⟩, .slice none 0 0]))) :=
      tokR_nd T.size (tokB []) 0 _ _ rfl rfl (by decide) (by simp [tokB]) (by simp [tokB])
    go_enter Tryz.func73, Tryz.ntmps73
    go_wp2_with (first
      | (go_at_call 92; refine hbl.mono ?_; rintro e w1 ⟨rfl, hb⟩; rw [← z10_eq] at hb; have k1 := HK.out hb; clear hb HK hbl)
      | (refine wpList_store_box rfl 87 _ _ rfl w.heap.size _ rfl rfl z10 k1.1 Tryz.info87 rfl (by simp [Value.oneCell']) ?_; intro w2 hx2 hg2; have hc := hx2.cell))
    exact bodyPost_ret (by simp [results, Tryz.results73, go_sem, hc]) rfl ⟨HA.out, HR.out k1.2 hg2⟩
  have h1 : 0 < s.size := by omega
  have h1' : (0 : Int) < s.size := by omega
  have hhd := head_of s h1
  have hse := nonempty s h0
  have hne : s.data.toList ≠ [] := by intro e; rw [e] at hln; simp at hln; omega
  by_cases hA : s.data.toList.headD 0 = 60 ∧ (s.data.toList.drop 1).headD 0 = 45
  · rw [decide_eq_true hA] at hpf
    have htk : tokB s.data.toList = ⟨2, s.data.toList, s.data.toList.drop 2, nd 0 []⟩ := by unfold tokB; rw [if_neg hne, if_pos hA]
    have hl2 : 2 ≤ s.size := by
      by_cases h2 : s.size = 1
      · have : (s.data.toList.drop 1) = [] := List.drop_eq_nil_of_le (by omega)
        rw [this] at hA; exact absurd hA.2 (by decide)
      · omega
    have HA : Hid (TokR T.size (tokB s.data.toList) (.returned (.agg #[.int .u8 2, .int .i64 ((T.size : Int) - s.size), .int .i64 ((T.size : Int) - s.size + 2), .int .i64 0, .int .u64 0, .int .u64 0, .int .u64 0, .int .u64 0, .string ⟨#[]⟩, .slice none 0 0]))) :=
      tokR_nd T.size _ 2 _ _ (by rw [htk]) (by rw [htk]) (by decide) (by rw [htk, hln]) (by rw [htk]; show _ = (T.size : Int) - ((s.data.toList.drop 2).length : Int); rw [List.length_drop, hln]; omega)
    clear hA htk hhd hne
    go_enter Tryz.func73, Tryz.ntmps73
    go_wp2_with (first
      | (go_at_call 92; refine hbl.mono ?_; rintro e w1 ⟨rfl, hb⟩; rw [← z10_eq] at hb; have k1 := HK.out hb; clear hb HK hbl)
      | (go_at_call 31; refine (hpf _).mono ?_; rintro e w3 ⟨rfl, rfl⟩)
      | (refine wpList_store_box rfl 87 _ _ rfl w.heap.size _ rfl rfl z10 k1.1 Tryz.info87 rfl (by simp [Value.oneCell']) ?_; intro w2 hx2 hg2; have hc := hx2.cell))
    exact bodyPost_ret (by simp [results, Tryz.results73, go_sem, hc]) rfl ⟨HA.out, HR.out k1.2 hg2⟩
  rw [decide_eq_false hA] at hpf
  have hix : ∀ W, _ := fun W => Tryz.strings_IndexByte ⟨#[40, 41, 47, 38, 33, 63, 42, 43]⟩ (s[0].toNat : Int) W
  have hcc : ((s[0].toNat : Int).toNat.toUInt8) = s[0] := by simp
  rw [hcc, show (⟨#[40, 41, 47, 38, 33, 63, 42, 43]⟩ : ByteArray).data.toList = [40, 41, 47, 38, 33, 63, 42, 43] from rfl] at hix
  have hgd := sgs_is s[0]
  generalize Lib.indexByte [40, 41, 47, 38, 33, 63, 42, 43] s[0] = q at *
  clear hcc
  cases hB : isSg s[0] with
  | true =>
    rw [hB] at hgd
    have htk : tokB s.data.toList = ⟨s[0], s.data.toList, s.data.toList.drop 1, nd 0 []⟩ := by unfold tokB; rw [if_neg hne, if_neg hA, hhd, if_pos hB]
    have HA : Hid (TokR T.size (tokB s.data.toList) (.returned (.agg #[.int .u8 (s[0].toNat : Int), .int .i64 ((T.size : Int) - s.size), .int .i64 ((T.size : Int) - s.size + 1), .int .i64 0, .int .u64 0, .int .u64 0, .int .u64 0, .int .u64 0, .string ⟨#[]⟩, .slice none 0 0]))) :=
      tokR_nd T.size _ s[0] _ _ (by rw [htk]) (by rw [htk]) (by intro e; rw [e] at hB; revert hB; decide) (by rw [htk, hln]) (by rw [htk]; show _ = (T.size : Int) - ((s.data.toList.drop 1).length : Int); rw [List.length_drop, hln]; omega)
    clear hA htk hhd hne hB
    go_enter Tryz.func73, Tryz.ntmps73
    go_wp2_with (first
      | (go_at_call 92; refine hbl.mono ?_; rintro e w1 ⟨rfl, hb⟩; rw [← z10_eq] at hb; have k1 := HK.out hb; clear hb HK hbl)
      | (go_at_call 31; refine (hpf _).mono ?_; rintro e w3 ⟨rfl, rfl⟩)
      | (go_at_call 32; refine (hix _).mono ?_; rintro e w3 ⟨rfl, rfl⟩)
      | (refine wpList_store_box rfl 87 _ _ rfl w.heap.size _ rfl rfl z10 k1.1 Tryz.info87 rfl (by simp [Value.oneCell']) ?_; intro w2 hx2 hg2; have hc := hx2.cell))
    exact bodyPost_ret (by simp [results, Tryz.results73, go_sem, hc]) rfl ⟨HA.out, HR.out k1.2 hg2⟩
  | false =>
    rw [hB] at hgd
    have hlf : ∀ W, Calls Tryz.prog 93 #[.string s] W fun e w' => (∃ (x : Ex) (m : Nat), e = .returned (.tuple #[.agg #[.int .i64 x.k, .int .u64 (wd x.S 0), .int .u64 (wd x.S 1), .int .u64 (wd x.S 2), .int .u64 (wd x.S 3), .string x.t, .slice x.a x.kids.length x.c], .int .i64 m]) ∧ Hid (match leafAt s.data.toList with | some y => x = y.1 ∧ m = y.2 | none => m = 0)) ∧ Below W.heap.size W w' := fun W => (leafAt_any s W (by omega) h1).mono fun e w' h => h
    cases hl : leafAt s.data.toList with
    | none =>
      have htk : tokB s.data.toList = ⟨3, s.data.toList, [], nd 0 []⟩ := by unfold tokB; rw [if_neg hne, if_neg hA, hhd, if_neg (by rw [hB]; decide), hl]
      have HA : Hid (TokR T.size (tokB s.data.toList) (.panicked [{ v := .iface 84 (.agg #[.int .i64 ((T.size : Int) - s.size)]), recovered := false }])) := by
        unfold TokR
        rw [htk, if_pos rfl]
        unfold thrown
        rw [hln]
        exact rfl
      simp only [hl] at hlf
      clear hA htk hhd hne hB hl
      go_enter Tryz.func73, Tryz.ntmps73
      go_wp2_with (first
        | (go_at_call 92; refine hbl.mono ?_; rintro e w1 ⟨rfl, hb⟩; rw [← z10_eq] at hb; have k1 := HK.out hb; clear hb HK hbl)
        | (go_at_call 31; refine (hpf _).mono ?_; rintro e w3 ⟨rfl, rfl⟩)
        | (go_at_call 32; refine (hix _).mono ?_; rintro e w3 ⟨rfl, rfl⟩)
        | (go_at_call 93; refine (hlf _).mono ?_; rintro e w3 ⟨⟨x, m, rfl, hm⟩, hb⟩; have hm0 : m = 0 := hm; clear hm; subst hm0; have k3 := k1.2.trans (hb.mono k1.2.size)))
      exact ⟨rfl, HA.out, k3.alloc k3.size _⟩
    | some y =>
      have htk : tokB s.data.toList = ⟨1, s.data.toList, s.data.toList.drop y.2, y.1⟩ := by unfold tokB; rw [if_neg hne, if_neg hA, hhd, if_neg (by rw [hB]; decide), hl]
      have hy1 := leafAt_pos _ y hl
      have hy2 := leafAt_le _ y hl
      rw [hln] at hy2
      simp only [hl] at hlf
      obtain ⟨x, m⟩ := y
      simp only at hy1 hy2 hlf htk
      have HA : Hid (TokR T.size (tokB s.data.toList) (.returned (.agg #[.int .u8 1, .int .i64 ((T.size : Int) - s.size), .int .i64 ((T.size : Int) - s.size + m), .int .i64 x.k, .int .u64 (wd x.S 0), .int .u64 (wd x.S 1), .int .u64 (wd x.S 2), .int .u64 (wd x.S 3), .string x.t, .slice x.a x.kids.length x.c]))) := by
        unfold TokR
        rw [htk, if_neg (show ¬ (1 : UInt8) = 3 from by decide)]
        unfold tcells
        simp only [List.length_drop, hln]
        rw [show (T.size : Int) - ((s.size - m : Nat) : Int) = (T.size : Int) - s.size + m from by omega]
        exact rfl
      have hm0 : ((m : Int) == 0) = false := by rw [beq_eq_false_iff_ne]; omega
      have hmi : (m : Int) ≤ s.size := by omega
      clear hA htk hhd hne hB hl
      go_enter Tryz.func73, Tryz.ntmps73
      go_wp2_with (first
        | (go_at_call 92; refine hbl.mono ?_; rintro e w1 ⟨rfl, hb⟩; rw [← z10_eq] at hb; have k1 := HK.out hb; clear hb HK hbl)
        | (go_at_call 31; refine (hpf _).mono ?_; rintro e w3 ⟨rfl, rfl⟩)
        | (go_at_call 32; refine (hix _).mono ?_; rintro e w3 ⟨rfl, rfl⟩)
        | (go_at_call 93; refine (hlf _).mono ?_; rintro e w3 ⟨⟨x2, m2, rfl, hm⟩, hb⟩; obtain ⟨rfl, rfl⟩ : x2 = x ∧ m2 = m := hm; have k3 := And.intro (k1.1.below hb k1.1.lt) (k1.2.trans (hb.mono k1.2.size)))
        | (refine wpList_store_box rfl 87 _ _ rfl w.heap.size _ rfl rfl z10 (k3.1.alloc _) Tryz.info87 rfl (by simp [Value.oneCell']) ?_; intro w2 hx2 hg2; have hc := hx2.cell))
      exact bodyPost_ret (by simp [results, Tryz.results73, go_sem, hc]) rfl ⟨HA.out, HR.out (k3.2.alloc k3.2.size _) hg2⟩
end Go.Proofs.YtbeohmcmphebhaaGreatDoor
namespace Go.Proofs.YtbeohmcmphebhaaGreatDoor
open Go.RowKit
set_option linter.unusedVariables false
theorem tcells_eq (n : Nat) (t : Tk) : tcells n t = #[.int .u8 (t.k.toNat : Int), .int .i64 ((n : Int) - t.s.length), .int .i64 ((n : Int) - t.r.length), .int .i64 t.e.k, .int .u64 (wd t.e.S 0), .int .u64 (wd t.e.S 1), .int .u64 (wd t.e.S 2), .int .u64 (wd t.e.S 3), .string t.e.t, .slice t.e.a t.e.kids.length t.e.c] := rfl
theorem suf_drop' {l T : List UInt8} (h : l <:+ T) : l = T.drop (T.length - l.length) := by
  obtain ⟨p, rfl⟩ := h
  simp
theorem box_set {W : World} {B : Nat} {t : TypeId} {cs : Array Value} (h : BoxN W B t cs) (i : Nat) (v : Value) : BoxN (W.setCell ⟨B, i, none⟩ v) B t (cs.setIfInBounds i v) := Go.Lib.heap_setCell_same (w := W) (b := B) (i := i) h v
set_option maxRecDepth 20000 in
set_option maxHeartbeats 4000000 in
theorem withArrow_any (T : ByteArray) (u : Tk) (w : World) (hT : T.size ≤ 2000000) (hr : u.r <:+ T.data.toList) (hk3 : u.k ≠ 3) :
    Calls Tryz.prog 74 #[.string T, .agg (tcells T.size u)] w fun e w' => e = .returned (.agg (tcells T.size (arr u))) ∧ Below w.heap.size w w' := by
  obtain ⟨k, hk⟩ : ∃ k : Nat, k = T.size - u.r.length := ⟨_, rfl⟩
  have hrl := hr.length_le
  rw [llen] at hrl
  have hrd : T.data.toList.drop k = u.r := by
    have := suf_drop' hr
    rw [llen, ← hk] at this
    exact this.symm
  have hki : (T.size : Int) - u.r.length = k := by omega
  have hkT : (k : Int) ≤ T.size := by omega
  have hB0 := ((Below.refl w.heap.size w).alloc (Nat.le_refl _) (.cells (tcells T.size u) 87)).alloc (by simp) (.cells z10 87)
  have bU := (BoxN.new w 87 (tcells T.size u)).alloc (.cells z10 87)
  have bZ := BoxN.new (w.alloc (.cells (tcells T.size u) 87)) 87 z10
  rw [World.size_alloc] at bZ
  have HK : Hid (∀ {W1 : World}, Below ((w.alloc (.cells (tcells T.size u) 87)).alloc (.cells z10 87)).heap.size ((w.alloc (.cells (tcells T.size u) 87)).alloc (.cells z10 87)) W1 → BoxN W1 w.heap.size 87 (tcells T.size u) ∧ BoxN W1 (w.heap.size + 1) 87 z10 ∧ Below w.heap.size w W1) := fun hb => ⟨bU.below hb (by simp; omega), bZ.below hb (by simp), hB0.trans (hb.mono (by simp; omega))⟩
  have hbl := behindBlanks_any (T.extract k T.size) ((w.alloc (.cells (tcells T.size u) 87)).alloc (.cells z10 87)) (by simp; omega)
  rw [cut_list, hrd] at hbl
  obtain ⟨s, hs⟩ : ∃ s : ByteArray, s = ⟨(skip u.r).toArray⟩ := ⟨_, rfl⟩
  have hl : skip u.r = s.data.toList := by rw [hs]
  have hsl : s.size ≤ T.size := by
    have := (skip_suf u.r).length_le
    rw [hl, llen] at this
    omega
  rw [hl, ba_of_list] at hbl
  have hsi : (s.size : Int) ≤ T.size := by omega
  have hpf : ∀ W, _ := fun W => Tryz.strings_HasPrefix s ⟨#[60, 45]⟩ W
  rw [show (⟨#[60, 45]⟩ : ByteArray).data.toList = [60, 45] from rfl, pre6045] at hpf
  have HR : Hid (∀ {W1 W2 : World} {q : Nat}, Below w.heap.size w W1 → W1.grownBy W2 (some q) → w.heap.size ≤ q → Below w.heap.size w W2) := fun hb hg hq => hb.grown hg hb.size (fun k e => by cases e; exact hq)
  rw [tcells_eq T.size u, hki] at hbl HK
  rw [z10_eq] at hbl HK
  have HA : Hid (arr u = if u.k = 1 ∧ u.e.k = 4 ∧ s.data.toList.headD 0 = 60 ∧ (s.data.toList.drop 1).headD 0 = 45 then ⟨3, u.s, s.data.toList.drop 2, u.e⟩ else u) := by
    unfold Hid arr; rw [if_neg hk3, hl]
  rw [tcells_eq T.size u, hki]
  clear hB0 bU bZ hs hl hrd hr hk
  by_cases h1 : u.k = 1
  · have g1 : ((u.k.toNat : Int) == 1) = true := by rw [h1]; rfl
    by_cases h4 : u.e.k = 4
    · have g4 : (u.e.k == 4) = true := by simpa using h4
      by_cases hA : s.data.toList.headD 0 = 60 ∧ (s.data.toList.drop 1).headD 0 = 45
      · have hl2 : 2 ≤ s.size := by
          have hln := llen s
          by_cases h2 : s.size ≤ 1
          · have : (s.data.toList.drop 1) = [] := List.drop_eq_nil_of_le (by omega)
            rw [this] at hA; exact absurd hA.2 (by decide)
          · omega
        have hres : tcells T.size (arr u) = #[.int .u8 3, .int .i64 ((T.size : Int) - u.s.length), .int .i64 ((T.size : Int) - s.size + 2), .int .i64 u.e.k, .int .u64 (wd u.e.S 0), .int .u64 (wd u.e.S 1), .int .u64 (wd u.e.S 2), .int .u64 (wd u.e.S 3), .string u.e.t, .slice u.e.a u.e.kids.length u.e.c] := by
          rw [HA.out, if_pos ⟨h1, h4, hA.1, hA.2⟩, tcells_eq]
          simp only [List.length_drop, llen]
          rw [show (T.size : Int) - ((s.size - 2 : Nat) : Int) = (T.size : Int) - s.size + 2 from by omega]
          rfl
        rw [hres]
        rw [decide_eq_true hA] at hpf
        clear hA HA h1 h4 hres
        go_enter Tryz.func74, Tryz.ntmps74
        go_wp2_with (first
          | (go_at_call 92; refine hbl.mono ?_; rintro e w1 ⟨rfl, hb⟩; have k1 := HK.out hb; have c1 := k1.1.cell; have f1 : ∀ j, w1.frozen? ⟨w.heap.size, j, none⟩ = false := fun j => k1.1.frozen j; have b2 := box_set (box_set k1.1 0 (.int .u8 3)) 2 (.int .i64 ((T.size : Int) - s.size + 2)); have c2 := b2.cell; have f2 : ∀ j, (w1.setCell ⟨w.heap.size, 0, none⟩ (.int .u8 3)).frozen? ⟨w.heap.size, j, none⟩ = false := fun j => (box_set k1.1 0 (.int .u8 3)).frozen j; have bz := (k1.2.1.kept (Go.Lib.grownBy_setCell w1 w.heap.size 0 (.int .u8 3)) (by simp)).kept (Go.Lib.grownBy_setCell (w1.setCell ⟨w.heap.size, 0, none⟩ (.int .u8 3)) w.heap.size 2 (.int .i64 ((T.size : Int) - s.size + 2))) (by simp); have hbb : Hid _ := HR.out (HR.out k1.2.2 (Go.Lib.grownBy_setCell w1 w.heap.size 0 (.int .u8 3)) (Nat.le_refl _)) (Go.Lib.grownBy_setCell (w1.setCell ⟨w.heap.size, 0, none⟩ (.int .u8 3)) w.heap.size 2 (.int .i64 ((T.size : Int) - s.size + 2))) (Nat.le_refl _); clear hb HK hbl)
          | (go_at_call 31; refine (hpf _).mono ?_; rintro e w3 ⟨rfl, rfl⟩)
          | (refine wpList_store_box rfl 87 _ _ rfl (w.heap.size + 1) _ rfl rfl _ bz Tryz.info87 rfl (by simp [Value.oneCell']) ?_; intro w2 hx2 hg2; have hc := hx2.cell))
        exact bodyPost_ret (by simp [results, Tryz.results74, go_sem, hc]) rfl ⟨rfl, HR.out hbb.out hg2 (Nat.le_succ _)⟩
      · have hres : tcells T.size (arr u) = #[.int .u8 (u.k.toNat : Int), .int .i64 ((T.size : Int) - u.s.length), .int .i64 k, .int .i64 u.e.k, .int .u64 (wd u.e.S 0), .int .u64 (wd u.e.S 1), .int .u64 (wd u.e.S 2), .int .u64 (wd u.e.S 3), .string u.e.t, .slice u.e.a u.e.kids.length u.e.c] := by
          rw [HA.out, if_neg (fun h => hA ⟨h.2.2.1, h.2.2.2⟩), tcells_eq, hki]
        rw [hres]
        rw [decide_eq_false hA] at hpf
        clear hA HA h1 h4 hres
        go_enter Tryz.func74, Tryz.ntmps74
        go_wp2_with (first
          | (go_at_call 92; refine hbl.mono ?_; rintro e w1 ⟨rfl, hb⟩; have k1 := HK.out hb; have c1 := k1.1.cell; have bz := k1.2.1; clear hb HK hbl)
          | (go_at_call 31; refine (hpf _).mono ?_; rintro e w3 ⟨rfl, rfl⟩)
          | (refine wpList_store_box rfl 87 _ _ rfl (w.heap.size + 1) _ rfl rfl _ bz Tryz.info87 rfl (by simp [Value.oneCell']) ?_; intro w2 hx2 hg2; have hc := hx2.cell))
        exact bodyPost_ret (by simp [results, Tryz.results74, go_sem, hc]) rfl ⟨rfl, HR.out k1.2.2 hg2 (Nat.le_succ _)⟩
    · have g4 : (u.e.k == 4) = false := by simpa using h4
      have hres : tcells T.size (arr u) = #[.int .u8 (u.k.toNat : Int), .int .i64 ((T.size : Int) - u.s.length), .int .i64 k, .int .i64 u.e.k, .int .u64 (wd u.e.S 0), .int .u64 (wd u.e.S 1), .int .u64 (wd u.e.S 2), .int .u64 (wd u.e.S 3), .string u.e.t, .slice u.e.a u.e.kids.length u.e.c] := by
        rw [HA.out, if_neg (fun h => h4 h.2.1), tcells_eq, hki]
      rw [hres]
      clear HA h1 h4 hres hpf
      go_enter Tryz.func74, Tryz.ntmps74
      go_wp2_with (first
        | (go_at_call 92; refine hbl.mono ?_; rintro e w1 ⟨rfl, hb⟩; have k1 := HK.out hb; have c1 := k1.1.cell; have bz := k1.2.1; clear hb HK hbl)
        | (refine wpList_store_box rfl 87 _ _ rfl (w.heap.size + 1) _ rfl rfl _ bz Tryz.info87 rfl (by simp [Value.oneCell']) ?_; intro w2 hx2 hg2; have hc := hx2.cell))
      exact bodyPost_ret (by simp [results, Tryz.results74, go_sem, hc]) rfl ⟨rfl, HR.out k1.2.2 hg2 (Nat.le_succ _)⟩
  · have g1 : ((u.k.toNat : Int) == 1) = false := by
      rw [beq_eq_false_iff_ne]
      intro e
      exact h1 (UInt8.toNat_inj.1 (by show u.k.toNat = 1; omega))
    have hres : tcells T.size (arr u) = #[.int .u8 (u.k.toNat : Int), .int .i64 ((T.size : Int) - u.s.length), .int .i64 k, .int .i64 u.e.k, .int .u64 (wd u.e.S 0), .int .u64 (wd u.e.S 1), .int .u64 (wd u.e.S 2), .int .u64 (wd u.e.S 3), .string u.e.t, .slice u.e.a u.e.kids.length u.e.c] := by
      rw [HA.out, if_neg (fun h => h1 h.1), tcells_eq, hki]
    rw [hres]
    clear HA h1 hres hpf
    go_enter Tryz.func74, Tryz.ntmps74
    go_wp2_with (first
      | (go_at_call 92; refine hbl.mono ?_; rintro e w1 ⟨rfl, hb⟩; have k1 := HK.out hb; have c1 := k1.1.cell; have bz := k1.2.1; clear hb HK hbl)
      | (refine wpList_store_box rfl 87 _ _ rfl (w.heap.size + 1) _ rfl rfl _ bz Tryz.info87 rfl (by simp [Value.oneCell']) ?_; intro w2 hx2 hg2; have hc := hx2.cell))
    exact bodyPost_ret (by simp [results, Tryz.results74, go_sem, hc]) rfl ⟨rfl, HR.out k1.2.2 hg2 (Nat.le_succ _)⟩
end Go.Proofs.YtbeohmcmphebhaaGreatDoor
