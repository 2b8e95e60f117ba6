import Derived.Test.YtbeohmcmphebhaaDoorXKid
import Derived.Test.YtbeohmcmphebhaaDoorXEq
namespace Go.Proofs.YtbeohmcmphebhaaDoor
open Go.RowKit
open Ex.size (sizeL)
open Ex.pr (prKs)
open Ex.okA (okL)
set_option linter.unusedVariables false
theorem join_len3 (sep : List UInt8) (hs : sep.length ≤ 3) (l : List (List UInt8)) (hl : l ≠ []) : (Lib.join l sep).length + 3 ≤ (l.map fun x => x.length + 3).sum := by
  cases l with
  | nil => exact absurd rfl hl
  | cons x r =>
    rw [Lib.join_cons, List.map_cons, List.sum_cons, List.length_append]
    have h1 : ∀ (r : List (List UInt8)), (Lib.joinTail sep r).length ≤ (r.map fun x => x.length + 3).sum := by
      intro r
      induction r with
      | nil => simp [Lib.joinTail]
      | cons y r ih =>
        simp only [Lib.joinTail, List.map_cons, List.flatten_cons, List.length_append, List.sum_cons] at ih ⊢
        omega
    have := h1 r
    omega
theorem okL_take : ∀ (l : List Ex) (i : Nat), okL l = true → okL (l.take i) = true
  | [], i, _ => by simp [okL]
  | x :: r, 0, _ => rfl
  | x :: r, i + 1, h => by
    rw [okL, Bool.and_eq_true] at h
    rw [List.take_succ_cons, okL, h.1, okL_take r i h.2]
    rfl
theorem sizeL_le_take (l : List Ex) (i : Nat) : sizeL (l.take i) ≤ sizeL l := by
  have := sizeL_append (l.take i) (l.drop i)
  rw [List.take_append_drop] at this
  omega
set_option maxRecDepth 20000 in
set_option maxHeartbeats 4000000 in
theorem kids_any (e : Ex) (hk : ∀ x ∈ e.kids, KdC x) (hok : okL e.kids = true) (least : Int) (sep : ByteArray) (hsep : sep.size ≤ 3) (w : World) (v : Value) (l : List UInt8) (base : Nat) (hin : e.In base w) (hH : Holds w base v l) (hbase : base ≤ w.heap.size) (hl : l.length + 3000 * sizeL e.kids + 1 ≤ 1000000) :
    Calls Tryd.prog 42 #[v, .slice e.a e.kids.length e.c, .string sep, .int .i64 least] w fun r w' => ∃ v', r = .returned v' ∧ App base w v w' v' (l ++ Lib.join (prKs least e.kids) sep.data.toList) := by
  have hlen := hin.len
  have hHin : Hid (e.In base w) := hin
  have hHH : Hid (Holds w base v l) := hH
  have HK : Hid (∀ x ∈ e.kids, KdC x) := hk
  have HOK : Hid (okL e.kids = true) := hok
  clear hin hH hk hok
  go_enter Tryd.func42, Tryd.ntmps42
  go_wp2_with fail
  go_loopw [0, 13] (fun p q wr => ∃ i : Nat, q = .int .i64 i ∧ i ≤ e.kids.length ∧ Hid (App base w v wr p (l ++ Lib.join (prKs least (e.kids.take i)) sep.data.toList))) (fun _ q _ => e.kids.length - (intOf q).toNat)
  case atStart => exact ⟨0, rfl, Nat.zero_le _, by rw [List.take_zero, prKs, Lib.join_nil, List.append_nil]; exact App.refl hHH.out⟩
  case round =>
    obtain ⟨i, rfl, hi, HA⟩ := hrel
    by_cases hend : i = e.kids.length
    · have HF : Hid (App base w v wr u0 (l ++ Lib.join (prKs least e.kids) sep.data.toList)) := by
        have := HA.out
        rw [hend, List.take_length] at this
        exact this
      subst hend
      clear HA
      go_wp2_with fail
      go_ret
      exact ⟨_, rfl, HF.out⟩
    · have hlt : i < e.kids.length := by omega
      clear hend
      obtain ⟨x, hx⟩ : ∃ x, e.kids[i]? = some x := ⟨_, List.getElem?_eq_getElem hlt⟩
      have hmem := List.mem_of_getElem? hx
      have hLow := HA.out.low hHH.out hbase
      obtain ⟨⟨b, o, ha, hb, hc⟩, hinx⟩ := (hHin.out.below hLow).kid hx
      have c0 := hc 0 (by omega)
      have c1 := hc 1 (by omega)
      have c2 := hc 2 (by omega)
      have c3 := hc 3 (by omega)
      have c4 := hc 4 (by omega)
      have c5 := hc 5 (by omega)
      have c6 := hc 6 (by omega)
      rw [cells_eq] at c0 c1 c2 c3 c4 c5 c6
      simp only [List.getElem?_toArray, List.getElem?_cons_zero, List.getElem?_cons_succ, Nat.add_zero] at c0 c1 c2 c3 c4 c5 c6
      rw [ha]
      have hPT := prKs_take least e.kids i x hx
      have hST := sizeL_take e.kids i x hx
      have hSL := sizeL_le_take e.kids (i + 1)
      have hPL := prKs_len least (e.kids.take i) (okL_take e.kids i HOK.out)
      have hKx : KdC x := HK.out x hmem
      have hPn : (prKs least (e.kids.take i)).length = i := by rw [prKs_length, List.length_take]; omega
      have hJ : i ≠ 0 → (Lib.join (prKs least (e.kids.take i)) sep.data.toList).length + 3 ≤ 3000 * sizeL (e.kids.take i) := fun h => Nat.le_trans (join_len3 _ (by rw [llen]; exact hsep) _ (fun h2 => h (by rw [h2] at hPn; simpa using hPn.symm))) hPL
      have hJS : i ≠ 0 → l ++ Lib.join (prKs least (e.kids.take (i + 1))) sep.data.toList = (l ++ Lib.join (prKs least (e.kids.take i)) sep.data.toList) ++ sep.data.toList ++ brk least x.k x.pr := fun h => by
        rw [hPT, join_snoc _ _ _ (fun h2 => h (by rw [h2] at hPn; simpa using hPn.symm))]
        simp only [List.append_assoc]
      have hJ0 : i = 0 → l ++ Lib.join (prKs least (e.kids.take (i + 1))) sep.data.toList = l ++ brk least x.k x.pr := fun h => by
        rw [hPT, h, List.take_zero, prKs, List.nil_append, Lib.join_one]
      have hJ00 : i = 0 → Lib.join (prKs least (e.kids.take i)) sep.data.toList = [] := fun h => by rw [h, List.take_zero, prKs, Lib.join_nil]
      generalize Lib.join (prKs least (e.kids.take i)) sep.data.toList = J at *
      obtain ⟨J1, hJE⟩ : ∃ J1, Lib.join (prKs least (e.kids.take (i + 1))) sep.data.toList = J1 := ⟨_, rfl⟩
      rw [hJE] at hJS hJ0
      have HJE : Hid (Lib.join (prKs least (e.kids.take (i + 1))) sep.data.toList = J1) := hJE
      clear hJE
      have hA3 := HA.out.then ((Below.refl _ wr).alloc (Nat.le_refl _) (.cells x.cells 27))
      have bX := BoxN.new wr 27 x.cells
      have hin3 := hinx.below (((Below.refl _ wr).alloc (Nat.le_refl _) (.cells x.cells 27)).mono (Nat.le_trans hbase HA.out.grown.size))
      have hsz3 : base ≤ (wr.alloc (.cells x.cells 27)).heap.size := Nat.le_trans hbase hA3.grown.size
      have HA3 : Hid _ := hA3
      have HX3 : Hid (x.In base (wr.alloc (.cells x.cells 27)) ∧ BoxN (wr.alloc (.cells x.cells 27)) wr.heap.size 27 x.cells) := ⟨hin3, bX⟩
      clear hA3 bX hin3 hc hPT hPL hPn HA hLow hinx ha hb hmem hx
      by_cases h0 : i = 0
      · have hJ1 := hJ0 h0
        have hJe := hJ00 h0
        subst hJe
        rw [List.append_nil] at HA3
        have hcall := hKx least _ _ _ base HX3.out.1 HA3.out.own hsz3 (by omega)
        rw [val_eq, cells_eq] at hcall
        have g0 : decide (0 < i) = false := by simp; omega
        have H1 : Hid _ := hJ1
        clear hJ hJS hJ0 hJ00 hST hSL hKx hJ1 hHH hHin HK HOK
        clear h0
        go_wp2_with (go_at_call 43; refine hcall.mono ?_; clear hcall; rintro r w4 ⟨v4, rfl, hA4⟩; rw [← cells_eq] at hA4)
        have HR : Hid (App base w v w4 v4 (l ++ J1)) := by unfold Hid; rw [H1.out]; exact HA3.out.trans hA4
        exact ⟨⟨i + 1, by go_num, by omega, by rw [HJE.out]; exact HR⟩, by simp [intOf]; omega⟩
      · have H1 : Hid (l ++ J1 = l ++ J ++ sep.data.toList ++ brk least x.k x.pr) := hJS h0
        have hJl := hJ h0
        have g0 : decide (0 < i) = true := by simp; omega
        clear hJ hJS hJ0 hJ00 h0
        have hlJ : (l ++ J).length + sep.size + 3000 * x.size + 1 ≤ 1000000 := by rw [List.length_append]; omega
        have HO : Hid (Holds _ base u0 (l ++ J)) := HA3.out.own
        have HKx : Hid (KdC x) := hKx
        rw [cells_eq] at HO hsz3
        clear hST hSL hJl hHH hHin HK HOK hKx
        go_wp2_with (at_builtin; refine wpList_app_str rfl _ _ rfl rfl HO.out hsz3 sep rfl (by omega) ?_)
        intro v4 w4 hA4
        rw [← cells_eq] at hA4
        have hA5 := HA3.out.trans hA4
        have hlow4 := hA4.low HA3.out.own (by rw [cells_eq]; exact hsz3)
        have bX4 := (hA4.box HA3.out.own (by decide) HX3.out.2).cell
        rw [cells_eq] at bX4
        have hcall := HKx.out least w4 v4 _ base (HX3.out.1.below hlow4) hA4.own (Nat.le_trans (by rw [cells_eq]; exact hsz3) hA4.grown.size) (by rw [List.length_append] at hlJ; simp only [List.length_append, llen]; omega)
        rw [val_eq] at hcall
        have HA5 : Hid _ := hA5
        clear hA4 hA5 hlow4 HO HA3 HX3 HKx
        go_wp2_with (go_at_call 43; refine hcall.mono ?_; clear hcall; rintro r w6 ⟨v6, rfl, hA6⟩)
        have HR : Hid (App base w v w6 v6 (l ++ J1)) := by unfold Hid; rw [H1.out]; have := HA5.out.trans hA6; simpa only [List.append_assoc] using this
        exact ⟨⟨i + 1, by go_num, by omega, by rw [HJE.out]; exact HR⟩, by simp [intOf]; omega⟩
end Go.Proofs.YtbeohmcmphebhaaDoor
namespace Go.Proofs.YtbeohmcmphebhaaDoor
open Go.RowKit
set_option linter.unusedVariables false
attribute [local go_sem] eq_arr
def ws (S : BitVec 256) : Array Value := #[.int .u64 (wd S 0), .int .u64 (wd S 1), .int .u64 (wd S 2), .int .u64 (wd S 3)]
theorem ws_eq (S : BitVec 256) : ws S = #[.int .u64 (wd S 0), .int .u64 (wd S 1), .int .u64 (wd S 2), .int .u64 (wd S 3)] := rfl
set_option maxRecDepth 20000 in
set_option maxHeartbeats 4000000 in
theorem set_any (S : BitVec 256) (w : World) (v : Value) (l : List UInt8) (base : Nat) (hH : Holds w base v l) (hbase : base ≤ w.heap.size) (hl : l.length ≤ 1000000) :
    Calls Tryd.prog 40 #[v, .agg #[.int .u64 (wd S 0), .int .u64 (wd S 1), .int .u64 (wd S 2), .int .u64 (wd S 3)]] w fun r w' => ∃ v', r = .returned v' ∧ App base w v w' v' (l ++ (if isFull S then [46] else cls S)) := by
  have hB := (Below.refl w.heap.size w).alloc (Nat.le_refl _) (.cells (ws S) 24)
  have bS := BoxN.new w 24 (ws S)
  have hnot := not_any S (w.alloc (.cells (ws S) 24))
  have HE : Hid (∀ {W1 : World}, Below (w.alloc (.cells (ws S) 24)).heap.size (w.alloc (.cells (ws S) 24)) W1 → BoxN W1 w.heap.size 24 (ws S) ∧ Below w.heap.size w W1 ∧ Holds W1 base v l ∧ base ≤ W1.heap.size) := fun hb => by
    have h1 := hB.trans (hb.mono (by simp))
    exact ⟨bS.below hb (by simp), h1, hH.below h1, Nat.le_trans hbase h1.size⟩
  have HC := class_any S
  have hcl := (cls_len S).2
  clear hB bS hH
  rw [ws_eq] at hnot
  obtain ⟨fl, hfl⟩ : ∃ fl, isFull S = fl := ⟨_, rfl⟩
  rw [hfl]
  unfold isFull noS at hfl
  generalize cls S = cS at *
  cases fl with
  | true =>
    rw [if_pos rfl]
    go_enter Tryd.func40, Tryd.ntmps40
    go_wp2_with (first
      | (go_at_call 65; refine hnot.mono ?_; rintro r W1 ⟨rfl, hb1⟩; rw [← ws_eq] at hb1; have k1 := HE.out hb1; have HH1 : Hid _ := k1.2.2.1.below ((Below.refl _ W1).alloc (Nat.le_refl _) (.cells #[.int .u8 46] 5)); have HB1 : Hid (BoxN (W1.alloc (.cells #[.int .u8 46] 5)) W1.heap.size 5 #[.int .u8 46]) := BoxN.new W1 5 #[.int .u8 46]; clear hb1 HE)
      | (at_builtin; refine wpList_app_byte rfl _ _ rfl rfl HH1.out (by have := k1.2.2.2; simp; omega) W1.heap.size 46 HB1.out rfl (by omega) ?_; intro v2 w2 hA2))
    go_ret
    exact ⟨_, rfl, App.after (k1.2.1.alloc k1.2.1.size _) hA2⟩
  | false =>
    rw [if_neg (by simp)]
    go_enter Tryd.func40, Tryd.ntmps40
    go_wp2_with (first
      | (go_at_call 65; refine hnot.mono ?_; rintro r W1 ⟨rfl, hb1⟩; rw [← ws_eq] at hb1; have k1 := HE.out hb1; have cS1 := k1.1.cell; rw [ws_eq] at cS1; clear hb1 HE)
      | (go_at_call 66; refine (HC W1).mono ?_; rintro r W3 ⟨rfl, hb3⟩; have HB3 : Hid (Below w.heap.size w W3 ∧ Holds W3 base v l ∧ base ≤ W3.heap.size) := ⟨k1.2.1.trans (hb3.mono k1.2.1.size), k1.2.2.1.below hb3, Nat.le_trans k1.2.2.2 hb3.size⟩; clear hb3)
      | (at_builtin; refine wpList_app_str rfl _ _ rfl rfl HB3.out.2.1 HB3.out.2.2 ⟨cS.toArray⟩ rfl (by show l.length + cS.toArray.size ≤ _; simp; omega) ?_; intro v4 w4 hA4))
    go_ret
    exact ⟨_, rfl, App.after HB3.out.1 hA4⟩
end Go.Proofs.YtbeohmcmphebhaaDoor
