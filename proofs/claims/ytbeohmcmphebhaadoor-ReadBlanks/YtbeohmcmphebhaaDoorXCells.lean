import Derived.Test.YtbeohmcmphebhaaDoorXLeafC
import Derived.Test.YtbeohmcmphebhaaDoorXPs
import Derived.WalkLawsBesides
import Derived.Lib.BufferMore
import Derived.Lib.BufferWrite
namespace Go.Proofs.YtbeohmcmphebhaaDoor
open Go.RowKit
set_option linter.unusedVariables false
/-- A token's cells, in a text of n bytes. -/
def tcells (n : Nat) (t : Tk) : Array Value := #[.int .u8 (t.k.toNat : Int), .int .i64 ((n : Int) - t.s.length), .int .i64 ((n : Int) - t.r.length), .int .i64 t.e.k, .int .u64 (wd t.e.S 0), .int .u64 (wd t.e.S 1), .int .u64 (wd t.e.S 2), .int .u64 (wd t.e.S 3), .string t.e.t, .slice t.e.a t.e.kids.length t.e.c]
/-- What is thrown. -/
def thrown (n : Nat) (s : List UInt8) : Ending := .panicked [{ v := .iface 55 (.agg #[.int .i64 ((n : Int) - s.length)]), recovered := false }]
/-- What tokenFrom does. -/
def TokR (n : Nat) (t : Tk) (e : Ending) : Prop := if t.k = 3 then e = thrown n t.s else e = .returned (.agg (tcells n t))
def z10 : Array Value := #[.int .u8 0, .int .i64 0, .int .i64 0, .int .i64 0, .int .u64 0, .int .u64 0, .int .u64 0, .int .u64 0, .string ⟨#[]⟩, .slice none 0 0]
theorem z10_eq : z10 = #[.int .u8 0, .int .i64 0, .int .i64 0, .int .i64 0, .int .u64 0, .int .u64 0, .int .u64 0, .int .u64 0, .string ⟨#[]⟩, .slice none 0 0] := rfl
theorem tcells_nd (n : Nat) (k : UInt8) (s r : List UInt8) : tcells n ⟨k, s, r, nd 0 []⟩ = #[.int .u8 (k.toNat : Int), .int .i64 ((n : Int) - s.length), .int .i64 ((n : Int) - r.length), .int .i64 0, .int .u64 0, .int .u64 0, .int .u64 0, .int .u64 0, .string ⟨#[]⟩, .slice none 0 0] := by
  simp [tcells, nd, Ex.k, Ex.S, Ex.t, Ex.a, Ex.c, Ex.kids, wd_zero]
theorem tokR_nd (n : Nat) (t : Tk) (k : UInt8) (a b : Int) (ht : t.e = nd 0 []) (hk : t.k = k) (hk3 : k ≠ 3) (ha : a = (n : Int) - t.s.length) (hb : b = (n : Int) - t.r.length) :
    TokR n t (.returned (.agg #[.int .u8 (k.toNat : Int), .int .i64 a, .int .i64 b, .int .i64 0, .int .u64 0, .int .u64 0, .int .u64 0, .int .u64 0, .string ⟨#[]⟩, .slice none 0 0])) := by
  obtain ⟨tk, ts, tr, te⟩ := t
  simp only at ht hk ha hb
  subst ht hk ha hb
  unfold TokR
  rw [if_neg hk3, tcells_nd]
theorem sgs_fin : ∀ k : Fin 256, decide (0 ≤ Lib.indexByte [40, 41, 47, 38, 33, 63, 42, 43] (UInt8.ofNat k.val)) = isSg (UInt8.ofNat k.val) := by decide +kernel
theorem sgs_is (c : UInt8) : decide (0 ≤ Lib.indexByte [40, 41, 47, 38, 33, 63, 42, 43] c) = isSg c := by
  have := sgs_fin ⟨c.toNat, c.toNat_lt⟩
  simpa using this
theorem pre6045 (l : List UInt8) : Lib.hasPrefix l [60, 45] = decide (l.headD 0 = 60 ∧ (l.drop 1).headD 0 = 45) := by
  match l with
  | [] => rfl
  | [c] => rw [Bool.eq_iff_iff]; simp [Lib.hasPrefix, List.isPrefixOf]
  | c :: d :: r => rw [Bool.eq_iff_iff]; simp [Lib.hasPrefix, List.isPrefixOf]; exact ⟨fun h => ⟨h.1.symm, h.2.symm⟩, fun h => ⟨h.1.symm, h.2.symm⟩⟩
set_option maxRecDepth 20000 in
set_option maxHeartbeats 4000000 in
theorem tokenFrom_any (T : ByteArray) (k : Nat) (w : World) (hT : T.size ≤ 2000000) (hk : k ≤ T.size) :
    Calls Tryd.prog 50 #[.string T, .int .i64 k] w fun e w' => TokR T.size (tkB (T.data.toList.drop k)) e ∧ Below w.heap.size w w' := by
  have hk' : (k : Int) ≤ T.size := by omega
  have bZ := BoxN.new w 58 z10
  have hZ := (Below.refl w.heap.size w).alloc (Nat.le_refl _) (.cells z10 58)
  have HK : Hid (∀ {W1 : World}, Below (w.alloc (.cells z10 58)).heap.size (w.alloc (.cells z10 58)) W1 → BoxN W1 w.heap.size 58 z10 ∧ Below w.heap.size w W1) := fun hb => ⟨bZ.below hb (by simp), hZ.trans (hb.mono (by simp))⟩
  have HR : Hid (∀ {W1 W2 : World}, Below w.heap.size w W1 → W1.grownBy W2 (some w.heap.size) → Below w.heap.size w W2) := fun hb hg => hb.grown hg hb.size (fun k e => by cases e; exact Nat.le_refl _)
  have hbl := behindBlanks_any (T.extract k T.size) (w.alloc (.cells z10 58)) (by simp; omega)
  rw [cut_list, z10_eq] at hbl
  have hsl : (skip (T.data.toList.drop k)).length ≤ T.size := by
    have := (skip_suf (T.data.toList.drop k)).length_le
    rw [List.length_drop, llen] at this
    omega
  unfold tkB
  obtain ⟨s, hs⟩ : ∃ s : ByteArray, s = ⟨(skip (T.data.toList.drop k)).toArray⟩ := ⟨_, rfl⟩
  have hl : skip (T.data.toList.drop k) = s.data.toList := by rw [hs]
  rw [hl, ba_of_list] at hbl
  rw [hl, llen] at hsl
  rw [hl]
  clear hl hs bZ hZ
  have hsi : (s.size : Int) ≤ T.size := by omega
  have hln := llen s
  have hpf : ∀ W, _ := fun W => Tryd.strings_HasPrefix s ⟨#[60, 45]⟩ W
  rw [show (⟨#[60, 45]⟩ : ByteArray).data.toList = [60, 45] from rfl, pre6045] at hpf
  have hdec : ∀ b : Bool, True := fun _ => trivial
  by_cases h0 : s.size = 0
  · obtain rfl := empty_of s h0
    have HA : Hid (TokR T.size (tokB []) (.returned (.agg #[.int .u8 0, .int .i64 T.size, .int .i64 T.size, .int .i64 0, .int .u64 0, .int .u64 0, .int .u64 0, .int .u64 0, .string ⟨#[]⟩, .slice none 0 0]))) :=
      tokR_nd T.size (tokB []) 0 _ _ rfl rfl (by decide) (by simp [tokB]) (by simp [tokB])
    go_enter Tryd.func50, Tryd.ntmps50
    go_wp2_with (first
      | (go_at_call 70; refine hbl.mono ?_; rintro e w1 ⟨rfl, hb⟩; rw [← z10_eq] at hb; have k1 := HK.out hb; clear hb HK hbl)
      | (refine wpList_store_box rfl 58 _ _ rfl w.heap.size _ rfl rfl z10 k1.1 Tryd.info58 rfl (by simp [Value.oneCell']) ?_; intro w2 hx2 hg2; have hc := hx2.cell))
    exact bodyPost_ret (by simp [results, Tryd.results50, go_sem, hc]) rfl ⟨HA.out, HR.out k1.2 hg2⟩
  have h1 : 0 < s.size := by omega
  have h1' : (0 : Int) < s.size := by omega
  have hhd := head_of s h1
  have hse := nonempty s h0
  have hne : s.data.toList ≠ [] := by intro e; rw [e] at hln; simp at hln; omega
  by_cases hA : s.data.toList.headD 0 = 60 ∧ (s.data.toList.drop 1).headD 0 = 45
  · rw [decide_eq_true hA] at hpf
    have htk : tokB s.data.toList = ⟨2, s.data.toList, s.data.toList.drop 2, nd 0 []⟩ := by unfold tokB; rw [if_neg hne, if_pos hA]
    have hl2 : 2 ≤ s.size := by
      by_cases h2 : s.size = 1
      · have : (s.data.toList.drop 1) = [] := List.drop_eq_nil_of_le (by omega)
        rw [this] at hA; exact absurd hA.2 (by decide)
      · omega
    have HA : Hid (TokR T.size (tokB s.data.toList) (.returned (.agg #[.int .u8 2, .int .i64 ((T.size : Int) - s.size), .int .i64 ((T.size : Int) - s.size + 2), .int .i64 0, .int .u64 0, .int .u64 0, .int .u64 0, .int .u64 0, .string ⟨#[]⟩, .slice none 0 0]))) :=
      tokR_nd T.size _ 2 _ _ (by rw [htk]) (by rw [htk]) (by decide) (by rw [htk, hln]) (by rw [htk]; show _ = (T.size : Int) - ((s.data.toList.drop 2).length : Int); rw [List.length_drop, hln]; omega)
    clear hA htk hhd hne
    go_enter Tryd.func50, Tryd.ntmps50
    go_wp2_with (first
      | (go_at_call 70; refine hbl.mono ?_; rintro e w1 ⟨rfl, hb⟩; rw [← z10_eq] at hb; have k1 := HK.out hb; clear hb HK hbl)
      | (go_at_call 34; refine (hpf _).mono ?_; rintro e w3 ⟨rfl, rfl⟩)
      | (refine wpList_store_box rfl 58 _ _ rfl w.heap.size _ rfl rfl z10 k1.1 Tryd.info58 rfl (by simp [Value.oneCell']) ?_; intro w2 hx2 hg2; have hc := hx2.cell))
    exact bodyPost_ret (by simp [results, Tryd.results50, go_sem, hc]) rfl ⟨HA.out, HR.out k1.2 hg2⟩
  rw [decide_eq_false hA] at hpf
  have hix : ∀ W, _ := fun W => Tryd.strings_IndexByte ⟨#[40, 41, 47, 38, 33, 63, 42, 43]⟩ (s[0].toNat : Int) W
  have hcc : ((s[0].toNat : Int).toNat.toUInt8) = s[0] := by simp
  rw [hcc, show (⟨#[40, 41, 47, 38, 33, 63, 42, 43]⟩ : ByteArray).data.toList = [40, 41, 47, 38, 33, 63, 42, 43] from rfl] at hix
  have hgd := sgs_is s[0]
  generalize Lib.indexByte [40, 41, 47, 38, 33, 63, 42, 43] s[0] = q at *
  clear hcc
  cases hB : isSg s[0] with
  | true =>
    rw [hB] at hgd
    have htk : tokB s.data.toList = ⟨s[0], s.data.toList, s.data.toList.drop 1, nd 0 []⟩ := by unfold tokB; rw [if_neg hne, if_neg hA, hhd, if_pos hB]
    have HA : Hid (TokR T.size (tokB s.data.toList) (.returned (.agg #[.int .u8 (s[0].toNat : Int), .int .i64 ((T.size : Int) - s.size), .int .i64 ((T.size : Int) - s.size + 1), .int .i64 0, .int .u64 0, .int .u64 0, .int .u64 0, .int .u64 0, .string ⟨#[]⟩, .slice none 0 0]))) :=
      tokR_nd T.size _ s[0] _ _ (by rw [htk]) (by rw [htk]) (by intro e; rw [e] at hB; revert hB; decide) (by rw [htk, hln]) (by rw [htk]; show _ = (T.size : Int) - ((s.data.toList.drop 1).length : Int); rw [List.length_drop, hln]; omega)
    clear hA htk hhd hne hB
    go_enter Tryd.func50, Tryd.ntmps50
    go_wp2_with (first
      | (go_at_call 70; refine hbl.mono ?_; rintro e w1 ⟨rfl, hb⟩; rw [← z10_eq] at hb; have k1 := HK.out hb; clear hb HK hbl)
      | (go_at_call 34; refine (hpf _).mono ?_; rintro e w3 ⟨rfl, rfl⟩)
      | (go_at_call 35; refine (hix _).mono ?_; rintro e w3 ⟨rfl, rfl⟩)
      | (refine wpList_store_box rfl 58 _ _ rfl w.heap.size _ rfl rfl z10 k1.1 Tryd.info58 rfl (by simp [Value.oneCell']) ?_; intro w2 hx2 hg2; have hc := hx2.cell))
    exact bodyPost_ret (by simp [results, Tryd.results50, go_sem, hc]) rfl ⟨HA.out, HR.out k1.2 hg2⟩
  | false =>
    rw [hB] at hgd
    have hlf : ∀ W, Calls Tryd.prog 71 #[.string s] W fun e w' => (∃ (x : Ex) (m : Nat), e = .returned (.tuple #[.agg #[.int .i64 x.k, .int .u64 (wd x.S 0), .int .u64 (wd x.S 1), .int .u64 (wd x.S 2), .int .u64 (wd x.S 3), .string x.t, .slice x.a x.kids.length x.c], .int .i64 m]) ∧ Hid (match leafAt s.data.toList with | some y => x = y.1 ∧ m = y.2 | none => m = 0)) ∧ Below W.heap.size W w' := fun W => (leafAt_any s W (by omega) h1).mono fun e w' h => h
    cases hl : leafAt s.data.toList with
    | none =>
      have htk : tokB s.data.toList = ⟨3, s.data.toList, [], nd 0 []⟩ := by unfold tokB; rw [if_neg hne, if_neg hA, hhd, if_neg (by rw [hB]; decide), hl]
      have HA : Hid (TokR T.size (tokB s.data.toList) (.panicked [{ v := .iface 55 (.agg #[.int .i64 ((T.size : Int) - s.size)]), recovered := false }])) := by
        unfold TokR
        rw [htk, if_pos rfl]
        unfold thrown
        rw [hln]
        exact rfl
      simp only [hl] at hlf
      clear hA htk hhd hne hB hl
      go_enter Tryd.func50, Tryd.ntmps50
      go_wp2_with (first
        | (go_at_call 70; refine hbl.mono ?_; rintro e w1 ⟨rfl, hb⟩; rw [← z10_eq] at hb; have k1 := HK.out hb; clear hb HK hbl)
        | (go_at_call 34; refine (hpf _).mono ?_; rintro e w3 ⟨rfl, rfl⟩)
        | (go_at_call 35; refine (hix _).mono ?_; rintro e w3 ⟨rfl, rfl⟩)
        | (go_at_call 71; refine (hlf _).mono ?_; rintro e w3 ⟨⟨x, m, rfl, hm⟩, hb⟩; have hm0 : m = 0 := hm; clear hm; subst hm0; have k3 := k1.2.trans (hb.mono k1.2.size)))
      exact ⟨rfl, HA.out, k3.alloc k3.size _⟩
    | some y =>
      have htk : tokB s.data.toList = ⟨1, s.data.toList, s.data.toList.drop y.2, y.1⟩ := by unfold tokB; rw [if_neg hne, if_neg hA, hhd, if_neg (by rw [hB]; decide), hl]
      have hy1 := leafAt_pos _ y hl
      have hy2 := leafAt_le _ y hl
      rw [hln] at hy2
      simp only [hl] at hlf
      obtain ⟨x, m⟩ := y
      simp only at hy1 hy2 hlf htk
      have HA : Hid (TokR T.size (tokB s.data.toList) (.returned (.agg #[.int .u8 1, .int .i64 ((T.size : Int) - s.size), .int .i64 ((T.size : Int) - s.size + m), .int .i64 x.k, .int .u64 (wd x.S 0), .int .u64 (wd x.S 1), .int .u64 (wd x.S 2), .int .u64 (wd x.S 3), .string x.t, .slice x.a x.kids.length x.c]))) := by
        unfold TokR
        rw [htk, if_neg (show ¬ (1 : UInt8) = 3 from by decide)]
        unfold tcells
        simp only [List.length_drop, hln]
        rw [show (T.size : Int) - ((s.size - m : Nat) : Int) = (T.size : Int) - s.size + m from by omega]
        exact rfl
      have hm0 : ((m : Int) == 0) = false := by rw [beq_eq_false_iff_ne]; omega
      have hmi : (m : Int) ≤ s.size := by omega
      clear hA htk hhd hne hB hl
      go_enter Tryd.func50, Tryd.ntmps50
      go_wp2_with (first
        | (go_at_call 70; refine hbl.mono ?_; rintro e w1 ⟨rfl, hb⟩; rw [← z10_eq] at hb; have k1 := HK.out hb; clear hb HK hbl)
        | (go_at_call 34; refine (hpf _).mono ?_; rintro e w3 ⟨rfl, rfl⟩)
        | (go_at_call 35; refine (hix _).mono ?_; rintro e w3 ⟨rfl, rfl⟩)
        | (go_at_call 71; refine (hlf _).mono ?_; rintro e w3 ⟨⟨x2, m2, rfl, hm⟩, hb⟩; obtain ⟨rfl, rfl⟩ : x2 = x ∧ m2 = m := hm; have k3 := And.intro (k1.1.below hb k1.1.lt) (k1.2.trans (hb.mono k1.2.size)))
        | (refine wpList_store_box rfl 58 _ _ rfl w.heap.size _ rfl rfl z10 (k3.1.alloc _) Tryd.info58 rfl (by simp [Value.oneCell']) ?_; intro w2 hx2 hg2; have hc := hx2.cell))
      exact bodyPost_ret (by simp [results, Tryd.results50, go_sem, hc]) rfl ⟨HA.out, HR.out (k3.2.alloc k3.2.size _) hg2⟩
end Go.Proofs.YtbeohmcmphebhaaDoor
namespace Go.Proofs.YtbeohmcmphebhaaDoor
open Go.RowKit
set_option linter.unusedVariables false
theorem tcells_eq (n : Nat) (t : Tk) : tcells n t = #[.int .u8 (t.k.toNat : Int), .int .i64 ((n : Int) - t.s.length), .int .i64 ((n : Int) - t.r.length), .int .i64 t.e.k, .int .u64 (wd t.e.S 0), .int .u64 (wd t.e.S 1), .int .u64 (wd t.e.S 2), .int .u64 (wd t.e.S 3), .string t.e.t, .slice t.e.a t.e.kids.length t.e.c] := rfl
theorem suf_drop' {l T : List UInt8} (h : l <:+ T) : l = T.drop (T.length - l.length) := by
  obtain ⟨p, rfl⟩ := h
  simp
theorem box_set {W : World} {B : Nat} {t : TypeId} {cs : Array Value} (h : BoxN W B t cs) (i : Nat) (v : Value) : BoxN (W.setCell ⟨B, i, none⟩ v) B t (cs.setIfInBounds i v) := Go.Lib.heap_setCell_same (w := W) (b := B) (i := i) h v
end Go.Proofs.YtbeohmcmphebhaaDoor
