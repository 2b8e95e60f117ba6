import Derived.Test.YtbeohmcmphebhaaDoorXCells
import Derived.Deep.RegionHeld3
import Derived.Deep.RegionWith
import Derived.BigRegion
import Derived.Deep.MidRow
import Derived.Laws.CopyRow
namespace Go.Proofs.YtbeohmcmphebhaaDoor
open Go.RowKit
set_option linter.unusedVariables false
def takeL (l : List UInt8) : Except (List UInt8) Tk := if (tok l).k = 4 then .error (tok l).s else .ok (tok l)
theorem tok_k4 (l : List UInt8) : (tok l).k = 4 ↔ (tkB l).k = 3 := arr_k4 (skip l)
theorem tkB_r (l : List UInt8) (h : (tkB l).k ≠ 3) : (tkB l).r <:+ l := by
  unfold tkB at h ⊢
  by_cases h0 : (tokB (skip l)).k = 0
  · have := (tokB_end _).1 h0
    rw [this]
    exact List.nil_suffix
  · exact (tokB_r _ h0 h).2.trans (skip_suf l)
/-- A parser's cells. -/
def pcells (T : ByteArray) (t : Tk) : Array Value := #[.string T, .bool false, .int .u8 (t.k.toNat : Int), .int .i64 ((T.size : Int) - t.s.length), .int .i64 ((T.size : Int) - t.r.length), .int .i64 t.e.k, .int .u64 (wd t.e.S 0), .int .u64 (wd t.e.S 1), .int .u64 (wd t.e.S 2), .int .u64 (wd t.e.S 3), .string t.e.t, .slice t.e.a t.e.kids.length t.e.c]
theorem pcells_eq (T : ByteArray) (t : Tk) : pcells T t = #[.string T, .bool false, .int .u8 (t.k.toNat : Int), .int .i64 ((T.size : Int) - t.s.length), .int .i64 ((T.size : Int) - t.r.length), .int .i64 t.e.k, .int .u64 (wd t.e.S 0), .int .u64 (wd t.e.S 1), .int .u64 (wd t.e.S 2), .int .u64 (wd t.e.S 3), .string t.e.t, .slice t.e.a t.e.kids.length t.e.c] := rfl
/-- .. whatever its token. -/
def qcells (T : ByteArray) (l : List Value) : Array Value := (.string T :: .bool false :: l).toArray
theorem pcells_q (T : ByteArray) (t : Tk) : pcells T t = qcells T (tcells T.size t).toList := rfl
/-- What taking a token does. -/
def TakeR (T : ByteArray) (B : Nat) (w : World) (R : Except (List UInt8) Tk) (e : Ending) (w' : World) : Prop :=
  match R with
  | .ok u => e = .returned (.tuple #[]) ∧ BoxN w' B 60 (pcells T u) ∧ w.grownBy w' (some B)
  | .error s => e = thrown T.size s ∧ w.grownBy w' (some B)
theorem suf_drop {l T : List UInt8} (h : l <:+ T) : l = T.drop (T.length - l.length) := suf_drop' h
theorem keepB {w w' : World} {B : Nat} {a b : Value} {cs : Array Value} (hB : B < w.heap.size) (h0 : w.cell? ⟨B, 0, none⟩ = some a) (h3 : w.cell? ⟨B, 3, none⟩ = some b) (ht : BoxN w B 60 cs) (hb : Below w.drew.heap.size w.drew w') :
    w'.cell? ⟨B, 0, none⟩ = some a ∧ w'.cell? ⟨B, 3, none⟩ = some b ∧ BoxN w' B 60 cs :=
  ⟨(hb.cell (p := ⟨B, 0, none⟩) hB).trans h0, (hb.cell (p := ⟨B, 3, none⟩) hB).trans h3, BoxN.below (W := w.drew) ht hb hB⟩
set_option maxRecDepth 20000 in
theorem tcells_one (n : Nat) (t : Tk) : ∀ v ∈ (tcells n t).toList, v.oneCell' = true := by
  intro v hv
  simp [tcells] at hv
  rcases hv with rfl | rfl | rfl | rfl | rfl | rfl | rfl | rfl | rfl | rfl <;> rfl
set_option maxRecDepth 20000 in
theorem store_tok (T : ByteArray) (B : Nat) (l : List Value) (hl : l.length = 10) (u : Tk) : ∀ W : World, BoxN W B 60 (qcells T l) → (storeCells ⟨B, 2, none⟩ (tcells T.size u).toList).run Tryd.prog W = .ok () (W.setRow B (pcells T u)) := by
  intro W hW
  have := run_storeCells_at (P := Tryd.prog) B 2 60 (tcells T.size u).toList 0 (qcells T l) W hW (by show 2 + 10 ≤ (qcells T l).size; unfold qcells; simp [hl]) (tcells_one _ _)
  rw [this]
  congr 2
  match l, hl with
  | [a, b, c, d, e, f, g, h, i, j], _ => rfl
set_option maxRecDepth 20000 in
set_option maxHeartbeats 8000000 in
theorem take_gen (T : ByteArray) (B : Nat) (l : List Value) (k : Nat) (w : World) (hT : T.size ≤ 2000000) (hk : k ≤ T.size) (hl : l.length = 10) (h2 : l[2]? = some (.int .i64 k)) (hB : BoxN w B 60 (qcells T l)) :
    Calls Tryd.prog 24 #[.pointer (some ⟨B, 0, none⟩)] w fun e w' => TakeR T B w (takeL (T.data.toList.drop k)) e w' := by
  have htf : ∀ W, _ := fun W => tokenFrom_any T k W hT hk
  have hc := hB.cell
  have hc0 : w.cell? ⟨B, 0, none⟩ = some (.string T) := hc 0
  have hc1 : w.cell? ⟨B, 1, none⟩ = some (.bool false) := hc 1
  have hc4 : w.cell? ⟨B, 4, none⟩ = some (.int .i64 k) := by rw [hc 4]; unfold qcells; simpa using h2
  have hsr : (tkB (T.data.toList.drop k)).k ≠ 3 → (tkB (T.data.toList.drop k)).r <:+ T.data.toList := fun h => (tkB_r _ h).trans (List.drop_suffix _ _)
  unfold TakeR takeL
  have hta : tok (T.data.toList.drop k) = arr (tkB (T.data.toList.drop k)) := rfl
  have hk4 := tok_k4 (T.data.toList.drop k)
  have hts : (tok (T.data.toList.drop k)).s = (tkB (T.data.toList.drop k)).s := by rw [hta, arr_s]
  rw [hts]
  rw [hta] at hk4 ⊢
  generalize tkB (T.data.toList.drop k) = u at *
  clear hc hta hts
  have hBl := hB.lt
  by_cases h3 : u.k = 3
  · rw [if_pos (hk4.2 h3)]
    unfold TokR at htf
    simp only [h3, if_true] at htf
    unfold thrown at htf
    clear hB h3 hk4 hsr
    go_enter Tryd.func24, Tryd.ntmps24
    go_wp2_with fail
    refine wp_region_any (by kernel_rfl) ?_
    try (change wpAny _ _ _ _ _ _ _ (World.drew _))
    refine wpAny_take (i := 0) (v := .pointer (some ⟨B, 0, none⟩)) rfl (by kernel_rfl) (by kernel_rfl) (by kernel_rfl) (fun _ _ _ h => h) (Or.inl ⟨by rfl, ?_⟩) ?_
    · intro w; go_simp
    refine wpAny_take (i := 1) (v := .pointer (some ⟨B, 0, none⟩)) rfl (by kernel_rfl) (by kernel_rfl) (by kernel_rfl) (fun _ _ _ h => h) (Or.inl ⟨by rfl, ?_⟩) ?_
    · intro w; go_simp
    refine wpAny_take (i := 2) (v := .pointer (some ⟨B, 0, none⟩)) rfl (by kernel_rfl) (by kernel_rfl) (by kernel_rfl) (fun _ _ _ h => h) (Or.inl ⟨by rfl, ?_⟩) ?_
    · intro w; go_simp
    refine wpAny_take (i := 3) (v := .pointer (some ⟨B, 0, none⟩)) rfl (by kernel_rfl) (by kernel_rfl) (by kernel_rfl) (fun _ _ _ h => h) (Or.inl ⟨by rfl, ?_⟩) ?_
    · intro w; go_simp
    refine wpAny_take (i := 5) (v := .pointer (some ⟨B, 0, none⟩)) rfl (by kernel_rfl) (by kernel_rfl) (by kernel_rfl) (fun _ _ _ h => h) (Or.inl ⟨by rfl, ?_⟩) ?_
    · intro w; go_simp
    refine wpAny_take (i := 6) (v := .pointer (some ⟨B, 0, none⟩)) rfl (by kernel_rfl) (by kernel_rfl) (by kernel_rfl) (fun _ _ _ h => h) (Or.inl ⟨by rfl, ?_⟩) ?_
    · intro w; go_simp
    refine wpAny_take (i := 7) (v := .pointer (some ⟨B, 2, none⟩)) rfl (by kernel_rfl) (by kernel_rfl) (by kernel_rfl) (fun _ _ _ h => h) (Or.inl ⟨by rfl, ?_⟩) ?_
    · intro w; go_simp
    refine wpAny_take (i := 8) (v := .pointer (some ⟨B, 4, none⟩)) rfl (by kernel_rfl) (by kernel_rfl) (by kernel_rfl) (fun _ _ _ h => h) (Or.inl ⟨by rfl, ?_⟩) ?_
    · intro w; go_simp
    refine wpAny_ready (rs := [4, 9]) (by kernel_rfl) (by simp) (AllReady.cons rfl (fun K hK => ?_) (AllReady.cons rfl (fun K hK => ?_) AllReady.nil))
    · go_simp
      refine hK _ _ ?_
      clear hK K
      refine wpAny_ready (rs := [9]) (by kernel_rfl) (by simp) (AllReady.cons rfl (fun K hK => ?_) AllReady.nil)
      go_simp
      refine hK _ _ ?_
      clear hK K
      refine wpAny_ready (rs := [10]) (by kernel_rfl) (by simp) (AllReady.cons rfl (fun K hK => ?_) AllReady.nil)
      go_simp
      go_at_call 50
      refine (htf _).mono ?_
      rintro e w' ⟨rfl, hb⟩
      exact ⟨rfl, rfl, gr_below (gr_drew (gr_refl B w)) hb⟩
    · go_simp
      refine hK _ _ ?_
      clear hK K
      refine wpAny_ready (rs := [4]) (by kernel_rfl) (by simp) (AllReady.cons rfl (fun K hK => ?_) AllReady.nil)
      go_simp
      refine hK _ _ ?_
      clear hK K
      refine wpAny_ready (rs := [10]) (by kernel_rfl) (by simp) (AllReady.cons rfl (fun K hK => ?_) AllReady.nil)
      go_simp
      go_at_call 50
      refine (htf _).mono ?_
      rintro e w' ⟨rfl, hb⟩
      exact ⟨rfl, rfl, gr_below (gr_drew (gr_refl B w)) hb⟩
  · rw [if_neg (fun h => h3 (hk4.1 h))]
    unfold TokR at htf
    simp only [h3, if_false] at htf
    have hau := arr_no u h3
    have hsc := store_tok T B l hl u
    obtain ⟨cs, hcs⟩ : ∃ cs, cs = (tcells T.size u).toList := ⟨_, rfl⟩
    have hcs2 : tcells T.size u = cs.toArray := by rw [hcs]
    have hlen : cs.length = 10 := by rw [hcs]; rfl
    rw [hcs2] at htf
    rw [← hcs] at hsc
    have hz : ∀ W, (Go.sizeOf 58).run Tryd.prog W = .ok 10 W := Tryd.sizeOf58
    have HAU : Hid (arr u = u) := hau
    clear hau hk4 hcs hcs2 hsr
    go_enter Tryd.func24, Tryd.ntmps24
    go_wp2_with fail
    refine wp_region_any (by kernel_rfl) ?_
    try (change wpAny _ _ _ _ _ _ _ (World.drew _))
    refine wpAny_take (i := 0) (v := .pointer (some ⟨B, 0, none⟩)) rfl (by kernel_rfl) (by kernel_rfl) (by kernel_rfl) (fun _ _ _ h => h) (Or.inl ⟨by rfl, ?_⟩) ?_
    · intro w; go_simp
    refine wpAny_take (i := 1) (v := .pointer (some ⟨B, 0, none⟩)) rfl (by kernel_rfl) (by kernel_rfl) (by kernel_rfl) (fun _ _ _ h => h) (Or.inl ⟨by rfl, ?_⟩) ?_
    · intro w; go_simp
    refine wpAny_take (i := 2) (v := .pointer (some ⟨B, 0, none⟩)) rfl (by kernel_rfl) (by kernel_rfl) (by kernel_rfl) (fun _ _ _ h => h) (Or.inl ⟨by rfl, ?_⟩) ?_
    · intro w; go_simp
    refine wpAny_take (i := 3) (v := .pointer (some ⟨B, 0, none⟩)) rfl (by kernel_rfl) (by kernel_rfl) (by kernel_rfl) (fun _ _ _ h => h) (Or.inl ⟨by rfl, ?_⟩) ?_
    · intro w; go_simp
    refine wpAny_take (i := 5) (v := .pointer (some ⟨B, 0, none⟩)) rfl (by kernel_rfl) (by kernel_rfl) (by kernel_rfl) (fun _ _ _ h => h) (Or.inl ⟨by rfl, ?_⟩) ?_
    · intro w; go_simp
    refine wpAny_take (i := 6) (v := .pointer (some ⟨B, 0, none⟩)) rfl (by kernel_rfl) (by kernel_rfl) (by kernel_rfl) (fun _ _ _ h => h) (Or.inl ⟨by rfl, ?_⟩) ?_
    · intro w; go_simp
    refine wpAny_take (i := 7) (v := .pointer (some ⟨B, 2, none⟩)) rfl (by kernel_rfl) (by kernel_rfl) (by kernel_rfl) (fun _ _ _ h => h) (Or.inl ⟨by rfl, ?_⟩) ?_
    · intro w; go_simp
    refine wpAny_take (i := 8) (v := .pointer (some ⟨B, 4, none⟩)) rfl (by kernel_rfl) (by kernel_rfl) (by kernel_rfl) (fun _ _ _ h => h) (Or.inl ⟨by rfl, ?_⟩) ?_
    · intro w; go_simp
    refine wpAny_ready (rs := [4, 9]) (by kernel_rfl) (by simp) (AllReady.cons rfl (fun K hK => ?_) (AllReady.cons rfl (fun K hK => ?_) AllReady.nil))
    · go_simp
      refine hK _ _ ?_
      clear hK K
      refine wpAny_ready (rs := [9]) (by kernel_rfl) (by simp) (AllReady.cons rfl (fun K hK => ?_) AllReady.nil)
      go_simp
      refine hK _ _ ?_
      clear hK K
      refine wpAny_ready (rs := [10]) (by kernel_rfl) (by simp) (AllReady.cons rfl (fun K hK => ?_) AllReady.nil)
      go_simp
      go_at_call 50
      refine (htf _).mono ?_
      rintro e w1 ⟨rfl, hb⟩
      have hB1 : BoxN w1 B 60 (qcells T l) := BoxN.below (W := w.drew) hB hb hBl
      have hs1 := hsc w1 hB1
      refine hK _ _ ?_
      clear hK K
      refine wpAny_take (i := 11) (v := .pointer (some ⟨B, 0, none⟩)) rfl (by kernel_rfl) (by kernel_rfl) (by kernel_rfl) (fun _ _ _ h => h) (Or.inl ⟨by rfl, ?_⟩) ?_
      · intro w; go_simp
      refine wpAny_take (i := 12) (v := .pointer (some ⟨B, 2, none⟩)) rfl (by kernel_rfl) (by kernel_rfl) (by kernel_rfl) (fun _ _ _ h => h) (Or.inl ⟨by rfl, ?_⟩) ?_
      · intro w; go_simp
      refine wpAny_ready (rs := [13]) (by kernel_rfl) (by simp) (AllReady.cons rfl (fun K hK => ?_) AllReady.nil)
      go_simp
      refine hK _ _ ?_
      clear hK K
      refine wpAny_done (by kernel_rfl) ?_ _
      have hB2 := grown_row (cs := pcells T u) hB1
      have HG : Hid (w.grownBy (w1.setRow B (pcells T u)) (some B)) := gr_trans (gr_below (gr_drew (gr_refl B w)) hb) hB2.2
      have hB2' := hB2.1
      clear hs1 hB1 hB2 hb
      generalize w1.setRow B (pcells T u) = W2 at *
      have cU := hB2'.cell
      have cD : ∀ j, W2.drew.cell? ⟨B, j, none⟩ = (pcells T u)[j]? := hB2'.cell
      rw [pcells_eq] at cU cD
      go_wp2_with fail
      exact bodyPost_end (results_none rfl _ _ _) rfl ⟨rfl, by rw [HAU.out]; exact hB2', HG.out⟩
    · go_simp
      refine hK _ _ ?_
      clear hK K
      refine wpAny_ready (rs := [4]) (by kernel_rfl) (by simp) (AllReady.cons rfl (fun K hK => ?_) AllReady.nil)
      go_simp
      refine hK _ _ ?_
      clear hK K
      refine wpAny_ready (rs := [10]) (by kernel_rfl) (by simp) (AllReady.cons rfl (fun K hK => ?_) AllReady.nil)
      go_simp
      go_at_call 50
      refine (htf _).mono ?_
      rintro e w1 ⟨rfl, hb⟩
      have hB1 : BoxN w1 B 60 (qcells T l) := BoxN.below (W := w.drew) hB hb hBl
      have hs1 := hsc w1 hB1
      refine hK _ _ ?_
      clear hK K
      refine wpAny_take (i := 11) (v := .pointer (some ⟨B, 0, none⟩)) rfl (by kernel_rfl) (by kernel_rfl) (by kernel_rfl) (fun _ _ _ h => h) (Or.inl ⟨by rfl, ?_⟩) ?_
      · intro w; go_simp
      refine wpAny_take (i := 12) (v := .pointer (some ⟨B, 2, none⟩)) rfl (by kernel_rfl) (by kernel_rfl) (by kernel_rfl) (fun _ _ _ h => h) (Or.inl ⟨by rfl, ?_⟩) ?_
      · intro w; go_simp
      refine wpAny_ready (rs := [13]) (by kernel_rfl) (by simp) (AllReady.cons rfl (fun K hK => ?_) AllReady.nil)
      go_simp
      refine hK _ _ ?_
      clear hK K
      refine wpAny_done (by kernel_rfl) ?_ _
      have hB2 := grown_row (cs := pcells T u) hB1
      have HG : Hid (w.grownBy (w1.setRow B (pcells T u)) (some B)) := gr_trans (gr_below (gr_drew (gr_refl B w)) hb) hB2.2
      have hB2' := hB2.1
      clear hs1 hB1 hB2 hb
      generalize w1.setRow B (pcells T u) = W2 at *
      have cU := hB2'.cell
      have cD : ∀ j, W2.drew.cell? ⟨B, j, none⟩ = (pcells T u)[j]? := hB2'.cell
      rw [pcells_eq] at cU cD
      go_wp2_with fail
      exact bodyPost_end (results_none rfl _ _ _) rfl ⟨rfl, by rw [HAU.out]; exact hB2', HG.out⟩
theorem take_any (T : ByteArray) (B : Nat) (t : Tk) (w : World) (hT : T.size ≤ 2000000) (ht : t.of T.data.toList) (hB : BoxN w B 60 (pcells T t)) :
    Calls Tryd.prog 24 #[.pointer (some ⟨B, 0, none⟩)] w fun e w' => TakeR T B w (take t) e w' := by
  have hr := ht.r.1.length_le
  rw [llen] at hr
  have hrd : T.data.toList.drop (T.size - t.r.length) = t.r := by
    have := suf_drop ht.r.1
    rw [llen] at this
    exact this.symm
  have := take_gen T B (tcells T.size t).toList (T.size - t.r.length) w hT (by omega) rfl (by show some (Value.int .i64 ((T.size : Int) - t.r.length)) = _; congr 2; omega) hB
  rw [hrd] at this
  exact this
end Go.Proofs.YtbeohmcmphebhaaDoor
