import Derived.Test.YtokdaapmejccbaaXTrG
import Derived.Test.YtokdaapmejccbaaXGChkA
import Derived.Defers
import Derived.Recover
import Derived.Laws.EntriesVeiled
namespace Go.Proofs.Ytokdaapmejccbaa
open Go.RowKit
set_option linter.unusedVariables false
set_option linter.unusedSimpArgs false
theorem setCell_box {W : World} {B : Nat} {t : TypeId} {v u : Value} (h : BoxN W B t #[v]) : BoxN (W.setCell ⟨B, 0, none⟩ u) B t #[u] := by
  have := setCell_eq_setRow W B 0 #[v] t (0, 0) u h
  rw [this]
  exact (grown_row (cs := #[u]) h).1
theorem box_other {W : World} {B B' : Nat} {t : TypeId} {cs : Array Value} (j : Nat) (u : Value) (h : BoxN W B t cs) (hne : B ≠ B') : BoxN (W.setCell ⟨B', j, none⟩ u) B t cs := (Below.heap_setCell W ⟨B', j, none⟩ u B hne).trans h
/-- Where the parts of anew lie: the grammar's box, the most, the steps that are done, the trier. -/
structure Pl where
  mk ::
  (g m d t : Nat)
def ruleA (P : Pl) : Value := .func (.func 73) #[] #[.pointer (some ⟨P.t, 0, none⟩), .pointer (some ⟨P.g, 0, none⟩)]
def toldV (P : Pl) : Value := .func (.func 76) #[] #[.pointer (some ⟨P.d, 0, none⟩), .pointer (some ⟨P.m, 0, none⟩)]
structure JA (g : Gr) (T : ByteArray) (most : Nat) (P : Pl) (N : Nat) (x : Nat) (W : World) : Prop where
  gi : g.In N W
  bg : BoxN W P.g 24 #[.slice g.a g.rules.length g.c]
  bm : BoxN W P.m 3 #[.int .i64 (most : Int)]
  bd : BoxN W P.d 3 #[.int .i64 (x : Int)]
  bt : BoxN W P.t 95 #[.string T, ruleA P, toldV P]
  ge : N ≤ P.g ∧ N ≤ P.m ∧ N ≤ P.d ∧ N ≤ P.t
  ne : P.g ≠ P.d ∧ P.m ≠ P.d ∧ P.t ≠ P.d
  lt : N ≤ W.heap.size
def XA (P : Pl) (_ : World) (k : Nat) : Prop := k = P.g ∨ k = P.m ∨ k = P.d ∨ k = P.t
theorem Lox.below {N : Nat} {X : World → Nat → Prop} {W W' : World} (h : Lox N X W W') (hN : N ≤ W.heap.size) : Below N W W' := ⟨h.os, h.tape, h.output, h.size, fun k hk => h.keep k (Nat.lt_of_lt_of_le hk hN) (.inl hk)⟩
theorem Lox.box {N : Nat} {X : World → Nat → Prop} {W W' : World} (h : Lox N X W W') {B : Nat} {t : TypeId} {cs : Array Value} (hb : BoxN W B t cs) (hx : X W B) : BoxN W' B t cs := (h.keep B hb.lt (.inr hx)).trans hb
theorem envA (g : Gr) (T : ByteArray) (most : Nat) (P : Pl) (N : Nat) : Envx Nat T P.t 0 N (ruleA P) (toldV P) (JA g T most P N) (XA P) where
  c0 h := h.bt.cell 0
  c1 h := h.bt.cell 1
  c2 h := h.bt.cell 2
  bx h hx := by
    rcases hx with rfl | rfl | rfl | rfl
    · exact ⟨h.ge.1, h.bg.lt⟩
    · exact ⟨h.ge.2.1, h.bm.lt⟩
    · exact ⟨h.ge.2.2.1, h.bd.lt⟩
    · exact ⟨h.ge.2.2.2, h.bt.lt⟩
  lt h := h.lt
  lo h hl := ⟨⟨h.gi.below (hl.below h.lt), hl.box h.bg (.inl rfl), hl.box h.bm (.inr (.inl rfl)), hl.box h.bd (.inr (.inr (.inl rfl))), hl.box h.bt (.inr (.inr (.inr rfl))), h.ge, h.ne, Nat.le_trans h.lt hl.size⟩, fun _ h => h⟩
theorem JA.alloc {g : Gr} {T : ByteArray} {most : Nat} {P : Pl} {N x : Nat} {W : World} (h : JA g T most P N x W) (o : Obj) : JA g T most P N x (W.alloc o) :=
  ((envA g T most P N).lo h (W' := W.alloc o) ⟨rfl, rfl, rfl, by simp, fun k hk _ => Below.heap_alloc W o k hk⟩).1
/-- A step more is done. -/
theorem JA.done {g : Gr} {T : ByteArray} {most : Nat} {P : Pl} {N x : Nat} {W : World} (h : JA g T most P N x W) (y : Nat) : JA g T most P N y (W.setCell ⟨P.d, 0, none⟩ (.int .i64 (y : Int))) ∧ Kpx (XA P) W (W.setCell ⟨P.d, 0, none⟩ (.int .i64 (y : Int))) := by
  have hb : Below N W (W.setCell ⟨P.d, 0, none⟩ (.int .i64 (y : Int))) := (Below.refl N W).setCell h.ge.2.2.1 _
  refine ⟨⟨h.gi.below hb, box_other _ _ h.bg h.ne.1, box_other _ _ h.bm h.ne.2.1, setCell_box h.bd, box_other _ _ h.bt h.ne.2.2, h.ge, h.ne, Nat.le_trans h.lt hb.size⟩, rfl, rfl, rfl, hb.size, fun k hk hx => ⟨Below.heap_setCell W _ _ k (fun e => hx (.inr (.inr (.inl e)))), hx⟩⟩
theorem ta_yes (w : World) : (Instr.typeAssert (.iface 133 (.agg #[])) 20 133 true).run Try.prog w = .ok (.tuple #[.agg #[], .bool true]) w := by
  have h := Try.underlying133
  simp [Instr.typeAssert, run_underlying h, go_sem, Result.andThen]
theorem ta_no (w : World) : (Instr.typeAssert .nilIface 20 133 true).run Try.prog w = .ok (.tuple #[.agg #[], .bool false]) w := by
  have h := Try.underlying133
  simp [Instr.typeAssert, run_underlying h, go_sem, Result.andThen]
set_option maxRecDepth 20000 in
set_option maxHeartbeats 4000000 in
theorem told_any (g : Gr) (T : ByteArray) (most : Nat) (hm : most ≤ 1048576) (P : Pl) (N x : Nat) (hx : x ≤ most) (z : Bool) (n : Int) (nv pv : Value) (w : World) (hJ : JA g T most P N x w) :
    Calls Try.prog 76 #[nv, pv, .agg #[.bool z, .int .i64 n], .pointer (some ⟨P.d, 0, none⟩), .pointer (some ⟨P.m, 0, none⟩)] w (TellR (JA g T most P N) (XA P) (if x + 1 ≤ most then some (x + 1) else none) w) := by
  have hJ1 := hJ.alloc (.cells #[.bool z, .int .i64 n] 29)
  have hk1 : Kpx (XA P) w (w.alloc (.cells #[.bool z, .int .i64 n] 29)) := (Mdx.alloc (envA g T most P N) (Mdx.start hJ) _).kp
  obtain ⟨hJ2, hk2⟩ := hJ1.done (x + 1)
  have HJ : Hid (JA g T most P N (x + 1) _ ∧ Kpx (XA P) w _) := ⟨hJ2, hk1.trans hk2⟩
  have c1 := hJ1.bd.cell 0
  have f1 := hJ1.bd.frozen 0
  have c2 := hJ2.bd.cell 0
  have c3 := hJ2.bm.cell 0
  simp only [List.getElem?_toArray, List.getElem?_cons_zero] at c1 c2 c3
  rw [show (((x + 1 : Nat)) : Int) = (x : Int) + 1 from rfl] at HJ c2 c3
  obtain ⟨pg, pm, pd, pt⟩ := P
  clear hJ hJ1 hJ2 hk1 hk2
  by_cases hle : x + 1 ≤ most
  · rw [if_pos hle]
    have g1 : decide ((most : Int) < (x : Int) + 1) = false := by simp; omega
    unfold TellR
    simp only
    go_enter Try.func76, Try.ntmps76
    go_wp2_with fail
    exact bodyPost_end (results_none rfl _ _ _) rfl ⟨rfl, HJ.out.2, HJ.out.1⟩
  · rw [if_neg hle]
    have g1 : decide ((most : Int) < (x : Int) + 1) = true := by simp; omega
    unfold TellR thrownV
    simp only
    go_enter Try.func76, Try.ntmps76
    go_wp2_with fail
    exact ⟨rfl, rfl, HJ.out.2, _, HJ.out.1⟩
set_option maxRecDepth 20000 in
set_option maxHeartbeats 4000000 in
theorem rule_does (g : Gr) (hB : BOk g) (T : ByteArray) (most : Nat) (P : Pl) (N : Nat) (I : Nat → Prop) (F : Ex → Nat → Nat → Rg Nat) (hTry : TryC g T P.t 0 N (JA g T most P N) (XA P) I F 74) : RuleC g T N (JA g T most P N) (XA P) I (callA g F) 73 #[] #[.pointer (some ⟨P.t, 0, none⟩), .pointer (some ⟨P.g, 0, none⟩)] := fun t p x r w ht hp hJ hI h => by
  have E := envA g T most P N
  have HM : Hid (MO N (JA g T most P N) (XA P) w w.heap.size x _ _) := MO.new E hJ #[.bool false, .int .i64 0]
  obtain ⟨i, r0, hi, hr0, hb⟩ := body_of ht
  unfold callA at h
  rw [hb] at h
  simp only at h
  have hil := (List.getElem?_eq_some_iff.1 hr0).1
  have hru := hJ.gi.rule i r0 hr0
  obtain ⟨gb, go, hga, hgl, hgc⟩ := hru.lies
  have hfd := find_any g t (w.alloc (.cells #[.bool false, .int .i64 0] 29)).drew (by
    have h1 := (HM.out.drew E).m.j
    exact h1.gi.mono h1.lt)
  rw [gval_eq, hi, hga] at hfd
  have HCC : Hid (∀ (y : Nat) W, JA g T most P N y W → W.cell? ⟨P.g, 0, none⟩ = some (.slice (some ⟨gb, go, none⟩) g.rules.length g.c)) := fun y W hj => by
    have := hj.bg.cell 0
    rw [hga] at this
    simpa using this
  have HC : Hid ((w.alloc (.cells #[.bool false, .int .i64 0] 29)).drew.cell? ⟨P.g, 0, none⟩ = some (.slice (some ⟨gb, go, none⟩) g.rules.length g.c)) := HCC.out _ _ (HM.out.drew E).m.j
  have HT : Hid (∀ W, Below (w.alloc (.cells #[.bool false, .int .i64 0] 29)).drew.heap.size (w.alloc (.cells #[.bool false, .int .i64 0] 29)).drew W → Calls Try.prog 74 #[.pointer (some ⟨P.t, 0, none⟩), .pointer (some ⟨gb, go + i * 8 + 1, none⟩), .int .i64 (p : Int)] W (TryR (JA g T most P N) (XA P) p r W)) := fun W hb => by
    have hm := (HM.out.drew E).below E hb
    have hlow := hm.low E hJ
    exact hTry r0.2 p x r W gb (go + i * 8 + 1) (hB r0 (List.mem_of_getElem? hr0)) ⟨hru.body.below hlow, hgl, fun m hm => by
      have h1 := hgc (m + 1) (by omega)
      rw [show go + i * 8 + (m + 1) = go + i * 8 + 1 + m from by omega] at h1
      rw [hlow.cell (p := ⟨gb, go + i * 8 + 1 + m, none⟩) hgl, h1]
      match m, hm with
      | 0, _ => rfl
      | 1, _ => rfl
      | 2, _ => rfl
      | 3, _ => rfl
      | 4, _ => rfl
      | 5, _ => rfl
      | 6, _ => rfl⟩ hp hm.m.j hI h
  have HM : Hid (MO N (JA g T most P N) (XA P) w w.heap.size x _ _) := HM.out.drew E
  clear hgc hru hb hi h hTry hJ
  obtain ⟨pg, pm, pd, pt⟩ := P
  show Calls Try.prog 73 #[.string t, .int .i64 (p : Int), .pointer (some ⟨pt, 0, none⟩), .pointer (some ⟨pg, 0, none⟩)] w (TryR (JA g T most ⟨pg, pm, pd, pt⟩ N) (XA ⟨pg, pm, pd, pt⟩) p r w)
  cases r with
  | none =>
    unfold TryR thrownV at HT ⊢
    simp only at HT ⊢
    go_enter Try.func73, Try.ntmps73
    go_wp2_with fail
    generalize w.alloc (.cells #[.bool false, .int .i64 0] 29) = w1 at *
    refine wp_region_sch (fun W => W.cell? ⟨pg, 0, none⟩ = some (.slice (some ⟨gb, go, none⟩) g.rules.length g.c)) 9 [(0,true),(1,true),(2,true),(3,true),(7,true),(4,false),(5,true),(6,true),(8,false),(9,false)] _ (by kernel_rfl) (by kernel_rfl) (fun _ => by kernel_rfl) (by kernel_rfl) rfl (fun c a d v w h => by cases d <;> exact h) HC.out ?_
    iterate 5
      refine wpSch_read rfl rfl ?_
      apply Exists.intro
      refine ⟨fun W hW => ?_, ?_⟩
      · have c0 := hW
        go_simp
        with_reducible rfl
      simp only [Act.put, List.setIfInBounds_toArray, List.set_cons_zero, List.set_cons_succ]
    refine wpSch_list rfl rfl (fun K hK => ?_)
    go_wp2_with (go_at_call 75; refine hfd.mono ?_; rintro e0 W2 ⟨rfl, hb2⟩)
    have HM2 : Hid _ := HM.out.below E hb2
    have hcl := HT.out W2 hb2
    refine hK _ _ (fun _ => HCC.out _ _ HM2.out.m.j) ?_
    clear hK K hfd hb2
    iterate 2
      refine wpSch_read rfl rfl ?_
      apply Exists.intro
      refine ⟨fun W hW => ?_, ?_⟩
      · have c0 := hW
        go_simp
        with_reducible rfl
      simp only [Act.put, List.setIfInBounds_toArray, List.set_cons_zero, List.set_cons_succ]
    refine wpSch_list rfl rfl (fun K hK => ?_)
    go_wp2_with (go_at_call 74; refine hcl.mono ?_; rintro e1 W3 ⟨rfl, hk3, hj3⟩)
    exact ⟨rfl, rfl, HM2.out.m.kp.trans hk3, hj3⟩
  | some r =>
    obtain ⟨o, y⟩ := r
    unfold TryR at HT ⊢
    simp only at HT ⊢
    unfold oval at HT ⊢
    obtain ⟨z, n, hzn⟩ := oc_form p o
    rw [hzn] at HT ⊢
    go_enter Try.func73, Try.ntmps73
    go_wp2_with fail
    generalize w.alloc (.cells #[.bool false, .int .i64 0] 29) = w1 at *
    refine wp_region_sch (fun W => W.cell? ⟨pg, 0, none⟩ = some (.slice (some ⟨gb, go, none⟩) g.rules.length g.c)) 9 [(0,true),(1,true),(2,true),(3,true),(7,true),(4,false),(5,true),(6,true),(8,false),(9,false)] _ (by kernel_rfl) (by kernel_rfl) (fun _ => by kernel_rfl) (by kernel_rfl) rfl (fun c a d v w h => by cases d <;> exact h) HC.out ?_
    iterate 5
      refine wpSch_read rfl rfl ?_
      apply Exists.intro
      refine ⟨fun W hW => ?_, ?_⟩
      · have c0 := hW
        go_simp
        with_reducible rfl
      simp only [Act.put, List.setIfInBounds_toArray, List.set_cons_zero, List.set_cons_succ]
    refine wpSch_list rfl rfl (fun K hK => ?_)
    go_wp2_with (go_at_call 75; refine hfd.mono ?_; rintro e0 W2 ⟨rfl, hb2⟩)
    have HM2 : Hid _ := HM.out.below E hb2
    have hcl := HT.out W2 hb2
    refine hK _ _ (fun _ => HCC.out _ _ HM2.out.m.j) ?_
    clear hK K hfd hb2
    iterate 2
      refine wpSch_read rfl rfl ?_
      apply Exists.intro
      refine ⟨fun W hW => ?_, ?_⟩
      · have c0 := hW
        go_simp
        with_reducible rfl
      simp only [Act.put, List.setIfInBounds_toArray, List.set_cons_zero, List.set_cons_succ]
    refine wpSch_list rfl rfl (fun K hK => ?_)
    go_wp2_with (go_at_call 74; refine hcl.mono ?_; rintro e1 W3 ⟨rfl, hk3, hj3⟩)
    have HM1 : Hid _ := HM2.out.call hk3 hj3
    refine hK _ _ (fun _ => HCC.out _ _ HM1.out.m.j) ?_
    clear hK K hk3 hj3
    refine wpSch_list rfl rfl (fun K hK => ?_)
    go_wp2_with (refine wpList_store_box rfl 29 _ _ rfl w.heap.size _ rfl rfl _ HM1.out.o.box Try.info29 rfl (by simp [Value.oneCell']) ?_; intro w5 hx5 hg5; have hc := hx5.cell; have HM5 : Hid _ := HM1.out.store E hx5 hg5)
    refine hK _ _ (fun h => absurd rfl h) ?_
    clear hK K
    unfold wpSch
    go_wp2_with fail
    exact bodyPost_ret (by simp [results, Try.results73, go_sem, hc]) rfl ⟨rfl, HM5.out.m.kp, HM5.out.m.j⟩
end Go.Proofs.Ytokdaapmejccbaa
namespace Go.Proofs.Ytokdaapmejccbaa
open Go.RowKit
set_option linter.unusedVariables false
set_option linter.unusedSimpArgs false
theorem catch_idle (p q r : Value) (w : World) :
    CallsD Try.prog 72 #[p, q, r] .returning w fun e u' w' => e = .returned (.tuple #[]) ∧ u' = .returning ∧ w' = w.alloc (.cells #[] 133) := by
  have hta := ta_no
  refine callsD_of_wpS Try.func72 rfl fun c₀ cs hu => ?_
  simp only [Try.ntmps72, List.size_toArray, List.length_cons, List.length_nil, Nat.reduceAdd, Nat.reduceSub, Array.replicate_succ, Array.replicate_zero, List.push_toArray, List.append_toArray, List.nil_append, List.cons_append]
  apply wpS_seq
  apply wpS_region
  simp [wpOpsS, go_sem, recoverD, hu, Exit.thenS, hta]
  apply wpS_seq
  apply wpS_region
  simp [wpOpsS, go_sem, Exit.thenS]
  refine wpS_cond (t := false) (by simp [Act.eval]) ?_
  simp only [Bool.false_eq_true, if_false]
  refine wpS_of_wp (wp_skip ?_)
  cases c₀
  simp_all [bodyPostS, results, Try.results72]
set_option maxRecDepth 20000 in
theorem catch_panicking (p q r : Nat) (w : World) (x y : Int) (b : Bool) (z : Int) (hp : BoxN w p 29 #[.bool b, .int .i64 z]) (hq : BoxN w q 3 #[.int .i64 x]) (hr : BoxN w r 25 #[.int .i64 y]) (h1 : q ≠ p) (h2 : r ≠ p) (h3 : r ≠ q) :
    CallsD Try.prog 72 #[.pointer (some ⟨p, 0, none⟩), .pointer (some ⟨q, 0, none⟩), .pointer (some ⟨r, 0, none⟩)] (.panicking [{ v := .iface 133 (.agg #[]), recovered := false }]) w fun e u' w' =>
      e = .returned (.tuple #[]) ∧ u' = .panicking [{ v := .iface 133 (.agg #[]), recovered := true }] ∧ w' = ((((w.alloc (.cells #[] 133)).setCell ⟨p, 0, none⟩ (.bool false)).setCell ⟨p, 1, none⟩ (.int .i64 0)).setCell ⟨q, 0, none⟩ (.int .i64 0)).setCell ⟨r, 0, none⟩ (.int .i64 10) := by
  have hA := (Below.refl w.heap.size w).alloc (Nat.le_refl _) (.cells #[] 133)
  have bp := hp.alloc (.cells #[] 133)
  have bp1 : BoxN _ p 29 _ := Go.Lib.heap_setCell_same (w := w.alloc (.cells #[] 133)) (b := p) (i := 0) bp (.bool false)
  have bp2 : BoxN _ p 29 _ := Go.Lib.heap_setCell_same (b := p) (i := 1) bp1 (.int .i64 0)
  have bq2 : BoxN (((w.alloc (.cells #[] 133)).setCell ⟨p, 0, none⟩ (.bool false)).setCell ⟨p, 1, none⟩ (.int .i64 0)) q 3 #[.int .i64 x] := box_other 1 _ (box_other 0 _ (hq.alloc _) h1) h1
  have br3 : BoxN ((((w.alloc (.cells #[] 133)).setCell ⟨p, 0, none⟩ (.bool false)).setCell ⟨p, 1, none⟩ (.int .i64 0)).setCell ⟨q, 0, none⟩ (.int .i64 0)) r 25 #[.int .i64 y] := box_other 0 _ (box_other 1 _ (box_other 0 _ (hr.alloc _) h2) h2) h3
  have p0 := bp.cell 0
  have p1 := bp1.cell 1
  have q0 := bq2.cell 0
  have r0 := br3.cell 0
  have f0 := bp.frozen 0
  have f1 := bp1.frozen 1
  have g0 := bq2.frozen 0
  have g1 := br3.frozen 0
  simp only [List.getElem?_toArray, List.getElem?_cons_zero, List.getElem?_cons_succ, List.setIfInBounds_toArray, List.set_cons_zero] at p0 p1 q0 r0
  have hta := ta_yes
  clear hA bp bp1 bp2 bq2 br3 hp hq hr
  refine callsD_of_wpS Try.func72 rfl fun c₀ cs hu => ?_
  simp only [Try.ntmps72, List.size_toArray, List.length_cons, List.length_nil, Nat.reduceAdd, Nat.reduceSub, Array.replicate_succ, Array.replicate_zero, List.push_toArray, List.append_toArray, List.nil_append, List.cons_append]
  apply wpS_seq
  apply wpS_region
  simp [wpOpsS, go_sem, recoverD, hu, Exit.thenS, hta]
  apply wpS_seq
  apply wpS_region
  simp [wpOpsS, go_sem, Exit.thenS]
  refine wpS_cond (t := true) (by simp [Act.eval]) ?_
  simp only [if_true]
  apply wpS_region
  simp [wpOpsS, go_sem, p0, p1, q0, r0, f0, f1, g0, g1, bodyPostS, results, Try.results72]
/-- Where the parts lie. -/
def plA (n : Nat) : Pl := ⟨n, n + 1, n + 1 + 1 + 1, n + 1 + 1 + 1 + 1 + 1⟩
/-- The world in which the first rule is tried. -/
def wA (g : Gr) (T : ByteArray) (most : Nat) (w : World) : World := (((((w.alloc (.cells #[.slice g.a g.rules.length g.c] 24)).alloc (.cells #[.int .i64 (most : Int)] 3)).alloc (.cells #[.bool false, .int .i64 0] 29)).alloc (.cells #[.int .i64 0] 3)).alloc (.cells #[.int .i64 0] 25)).alloc (.cells #[.string T, ruleA (plA w.heap.size), toldV (plA w.heap.size)] 95)
/-- The two boxes of results that the trier does not know of. -/
structure Rb (w W : World) (b : Bool) (z : Int) : Prop where
  bo : BoxN W (w.heap.size + 1 + 1) 29 #[.bool b, .int .i64 z]
  be : BoxN W (w.heap.size + 1 + 1 + 1 + 1) 25 #[.int .i64 0]
theorem wA_ok (g : Gr) (T : ByteArray) (most : Nat) (w : World) (hg : g.In w.heap.size w) : JA g T most (plA w.heap.size) w.heap.size 0 (wA g T most w) ∧ Rb w (wA g T most w) false 0 ∧ Below w.heap.size w (wA g T most w) := by
  have h1 := BoxN.new w 24 #[.slice g.a g.rules.length g.c]
  have h2 := BoxN.new (w.alloc (.cells #[.slice g.a g.rules.length g.c] 24)) 3 #[.int .i64 (most : Int)]
  have h3 := BoxN.new ((w.alloc (.cells #[.slice g.a g.rules.length g.c] 24)).alloc (.cells #[.int .i64 (most : Int)] 3)) 29 #[.bool false, .int .i64 0]
  have h4 := BoxN.new (((w.alloc (.cells #[.slice g.a g.rules.length g.c] 24)).alloc (.cells #[.int .i64 (most : Int)] 3)).alloc (.cells #[.bool false, .int .i64 0] 29)) 3 #[.int .i64 0]
  have h5 := BoxN.new ((((w.alloc (.cells #[.slice g.a g.rules.length g.c] 24)).alloc (.cells #[.int .i64 (most : Int)] 3)).alloc (.cells #[.bool false, .int .i64 0] 29)).alloc (.cells #[.int .i64 0] 3)) 25 #[.int .i64 0]
  have h6 := BoxN.new (((((w.alloc (.cells #[.slice g.a g.rules.length g.c] 24)).alloc (.cells #[.int .i64 (most : Int)] 3)).alloc (.cells #[.bool false, .int .i64 0] 29)).alloc (.cells #[.int .i64 0] 3)).alloc (.cells #[.int .i64 0] 25)) 95 #[.string T, ruleA (plA w.heap.size), toldV (plA w.heap.size)]
  simp only [World.size_alloc] at h2 h3 h4 h5 h6
  have hb : Below w.heap.size w (wA g T most w) := ((((((Below.refl _ w).alloc (Nat.le_refl _) _).alloc (by simp) _).alloc (by simp; omega) _).alloc (by simp; omega) _).alloc (by simp; omega) _).alloc (by simp; omega) _
  refine ⟨⟨hg.below hb, (((((h1.alloc _).alloc _).alloc _).alloc _).alloc _), ((((h2.alloc _).alloc _).alloc _).alloc _), ((h4.alloc _).alloc _), h6, ⟨Nat.le_refl _, by simp [plA], by simp [plA]; omega, by simp [plA]; omega⟩, ⟨show w.heap.size ≠ w.heap.size + 1 + 1 + 1 from by omega, show w.heap.size + 1 ≠ w.heap.size + 1 + 1 + 1 from by omega, show w.heap.size + 1 + 1 + 1 + 1 + 1 ≠ w.heap.size + 1 + 1 + 1 from by omega⟩, hb.size⟩, ⟨(((h3.alloc _).alloc _).alloc _), h5.alloc _⟩, hb⟩
/-- What the trial keeps. -/
theorem Rb.kp {w W W' : World} {b : Bool} {z : Int} (h : Rb w W b z) (hk : Kpx (XA (plA w.heap.size)) W W') : Rb w W' b z :=
  ⟨(hk.keep _ h.bo.lt (fun hx => by unfold XA plA at hx; simp only at hx; omega)).1.trans h.bo, (hk.keep _ h.be.lt (fun hx => by unfold XA plA at hx; simp only at hx; omega)).1.trans h.be⟩
/-- The outcomes of anew. -/
def anR (most : Nat) (o : Ot) (n : Nat) : Value := if n ≤ most then .tuple #[oval 0 o, .int .i64 (n : Int), .int .i64 0] else .tuple #[oval 0 none, .int .i64 0, .int .i64 10]
theorem run_callA (av : Array Value) (W : World) : Sem.run Try.prog (callFunc 73 av) W = .ok (.enter 73 av) W := by kernel_rfl
theorem run_callT (av : Array Value) (W : World) : Sem.run Try.prog (callFunc 76 av) W = .ok (.enter 76 av) W := by kernel_rfl
set_option maxRecDepth 20000 in
/-- Each step, counted. -/
theorem tryA (g : Gr) (hB : BOk g) (T : ByteArray) (hT : T.size ≤ 60) (most : Nat) (hm : most ≤ 1048576) (P : Pl) (N : Nat) : ∀ f, Bnd g T.size (· ≤ most) (tryG (callA g) (toldA most) T.data.toList f) ∧ TryC g T P.t 0 N (JA g T most P N) (XA P) (· ≤ most) (tryG (callA g) (toldA most) T.data.toList f) 74 := by
  have hbT : BndT (σ := Nat) (· ≤ most) (toldA most) := fun e p o x y hx h => by
    unfold toldA at h
    split at h
    · cases h; assumption
    · cases h
  have hbC : ∀ F, Bnd g T.data.toList.length (· ≤ most) F → BndC g T.data.toList.length (· ≤ most) (callA g F) := fun F hF t p x o y ht hp hx h => by
    obtain ⟨i, r, hi, hr, hb⟩ := body_of ht
    unfold callA at h
    rw [hb] at h
    exact hF r.2 p x o y (hB r (List.mem_of_getElem? hr)) hp hx h
  have hbd : ∀ f, Bnd g T.size (· ≤ most) (tryG (callA g) (toldA most) T.data.toList f) := fun f => tryG_bnd (g := g) T.data.toList hbC hbT f
  intro f
  refine ⟨hbd f, ?_⟩
  induction f with
  | zero => intro e p x r W nb no _ _ _ _ _ h; cases h
  | succ f ih =>
    intro e p x r W nb no he hn hp hJ hI h
    have E := envA g T most P N
    have hc := comes_all E hT 73 #[] #[.pointer (some ⟨P.t, 0, none⟩), .pointer (some ⟨P.g, 0, none⟩)] rfl (fun av W => run_callA av W) ih (hbd f) (C := callA g) (rule_does g hB T most P N (· ≤ most) _ ih) f
    rw [tryG] at h
    match hr : comesG (callA g) T.data.toList (tryG (callA g) (toldA most) T.data.toList f) f e p x with
    | none => rw [hr] at h; cases h
    | some none =>
      rw [hr] at h
      cases h
      exact try_thrown E p x W nb no hJ fun W2 hb hj => hc e p x none W2 nb no he (hn.below hb) hp hj hI hr
    | some (some (o, y)) =>
      rw [hr] at h
      obtain ⟨hy, -⟩ := comesG_bnd T.data.toList (hbC _ (hbd f)) (hbd f) f e p x o y he hp hI hr
      have hu : (toldA most e p o y).map (fun z => (o, z)) = r := by
        simp only [toldG] at h
        cases ht : toldA most e p o y with
        | none => rw [ht] at h; exact Option.some.inj h
        | some v => rw [ht] at h; exact Option.some.inj h
      rw [← hu]
      refine try_told E 76 #[] #[.pointer (some ⟨P.d, 0, none⟩), .pointer (some ⟨P.m, 0, none⟩)] rfl (fun av W => run_callT av W) p x o y (toldA most e p o y) W nb no hJ (fun W2 hb hj => hc e p x _ W2 nb no he (hn.below hb) hp hj hI hr) fun W2 hj => ?_
      obtain ⟨z, n, hzn⟩ := oc_form p o
      unfold oval
      rw [hzn]
      exact told_any g T most hm P N y hy z n _ _ W2 hj
end Go.Proofs.Ytokdaapmejccbaa
namespace Go.Proofs.Ytokdaapmejccbaa
open Go.RowKit
set_option linter.unusedVariables false
set_option linter.unusedSimpArgs false
/-- What the last stores leave. -/
theorem fin_an {w w5 : World} {p q r : Nat} {b : Bool} {a x y : Int} (hp : BoxN w5 p 29 #[.bool b, .int .i64 a]) (hq : BoxN w5 q 3 #[.int .i64 x]) (hr : BoxN w5 r 25 #[.int .i64 y]) (hb : Below w.heap.size w w5) (z : Bool) (k n u : Int)
    (h1 : q ≠ p) (h2 : r ≠ p) (h3 : r ≠ q) (h4 : w.heap.size ≤ p) (h5 : w.heap.size ≤ q) (h6 : w.heap.size ≤ r) :
    let V := ((((w5.setCell ⟨p, 0, none⟩ (.bool z)).setCell ⟨p, 1, none⟩ (.int .i64 k)).setCell ⟨q, 0, none⟩ (.int .i64 n)).setCell ⟨r, 0, none⟩ (.int .i64 u)).drew
    BoxN V p 29 #[.bool z, .int .i64 k] ∧ BoxN V q 3 #[.int .i64 n] ∧ BoxN V r 25 #[.int .i64 u] ∧ Below w.heap.size w V := by
  have bp1 : BoxN _ p 29 _ := Go.Lib.heap_setCell_same (w := w5) (b := p) (i := 0) hp (.bool z)
  have bp2 : BoxN _ p 29 _ := Go.Lib.heap_setCell_same (b := p) (i := 1) bp1 (.int .i64 k)
  have bq2 : BoxN ((w5.setCell ⟨p, 0, none⟩ (.bool z)).setCell ⟨p, 1, none⟩ (.int .i64 k)) q 3 #[.int .i64 x] := box_other 1 _ (box_other 0 _ hq h1) h1
  have br2 : BoxN ((w5.setCell ⟨p, 0, none⟩ (.bool z)).setCell ⟨p, 1, none⟩ (.int .i64 k)) r 25 #[.int .i64 y] := box_other 1 _ (box_other 0 _ hr h2) h2
  refine ⟨box_other 0 _ (box_other 0 _ bp2 (fun e => h1 e.symm)) (fun e => h2 e.symm), box_other 0 _ (setCell_box bq2) (fun e => h3 e.symm), setCell_box (box_other 0 _ br2 h3), ?_⟩
  exact ((((hb.setCell h4 _).setCell h4 _).setCell h5 _).setCell h6 _).drew
set_option maxRecDepth 20000 in
set_option maxHeartbeats 4000000 in
theorem anew_any (g : Gr) (hB : BOk g) (T : ByteArray) (hT : T.size ≤ 60) (most : Nat) (hm : most ≤ 1048576) (r0 : ByteArray × Ex) (hr0 : g.rules[0]? = some r0) (f : Nat) (o : Ot) (n : Nat) (hev : ev g T.data.toList f r0.2 0 = some (o, n)) (w : World) (hg : g.In w.heap.size w) :
    Calls Try.prog 43 #[.agg #[.slice g.a g.rules.length g.c], .string T, .int .i64 (most : Int)] w fun e W' => e = .returned (anR most o n) ∧ Below w.heap.size w W' := by
  have hmf : ∀ (fn : Fn) (first cap : Array Value) (w : World), (Instr.makeFunc fn first cap).run Try.prog w = .ok (.func fn first cap) w := fun _ _ _ _ => rfl
  obtain ⟨hJ, hR, hb⟩ := wA_ok g T most w hg
  have hru := hg.rule 0 r0 hr0
  obtain ⟨gb, go, hga, hgl, hgc⟩ := hru.lies
  simp only [Nat.zero_mul, Nat.add_zero] at hgc
  have h0 : 0 < g.rules.length := (List.getElem?_eq_some_iff.1 hr0).1
  have htr := (tryG_an g T.data.toList most f r0.2 0 o n 0 hev (Nat.zero_le _)).2
  have hcl := fun rr h => (tryA g hB T hT most hm (plA w.heap.size) w.heap.size f).2 r0.2 0 0 rr (wA g T most w) gb (go + 1) (hB r0 (List.mem_of_getElem? hr0)) ⟨hru.body.below hb, hgl, fun m hm => by
      have h1 := hgc (m + 1) (by omega)
      rw [show go + (m + 1) = go + 1 + m from by omega] at h1
      rw [hb.cell (p := ⟨gb, go + 1 + m, none⟩) hgl, h1]
      match m, hm with
      | 0, _ => rfl
      | 1, _ => rfl
      | 2, _ => rfl
      | 3, _ => rfl
      | 4, _ => rfl
      | 5, _ => rfl
      | 6, _ => rfl⟩ (Nat.zero_le _) hJ (Nat.zero_le _) h
  rw [htr] at hcl
  unfold stp at hcl
  rw [Nat.zero_add] at hcl
  unfold anR
  have HR : Hid (∀ W', Kpx (XA (plA w.heap.size)) (wA g T most w) W' → Rb w W' false 0 ∧ Below w.heap.size w W') := fun W' hk => ⟨hR.kp hk, hb.trans (hk.low (envA g T most (plA w.heap.size) w.heap.size) hJ)⟩
  clear hev hru hgc htr hR hb hJ hg
  rw [hga]
  unfold wA ruleA toldV plA at hcl HR
  rw [hga] at hcl HR
  by_cases hn : n ≤ most
  · rw [if_pos hn] at hcl ⊢
    have hcl := hcl _ rfl
    unfold TryR at hcl
    simp only at hcl
    unfold oval at hcl ⊢
    obtain ⟨z, k, hzn⟩ := oc_form 0 o
    rw [hzn] at hcl ⊢
    rw [show ((0 : Nat) : Int) = 0 from rfl] at hcl
    go_enter_defers Try.func43, Try.ntmps43
    go_wp2_with (first
      | (go_at_call 74; refine hcl.mono ?_; rintro e1 W1 ⟨rfl, hk1, hj1⟩; have HR1 : Hid _ := HR.out W1 hk1; have HD1 : Hid (BoxN W1 (w.heap.size + 1 + 1 + 1) 3 #[.int .i64 (n : Int)]) := hj1.bd; clear hk1 hj1 hcl)
      | (refine wpList_store_box rfl 29 _ _ rfl (w.heap.size + 1 + 1) _ rfl rfl _ HR1.out.1.bo Try.info29 rfl (by simp [Value.oneCell']) ?_; intro w5 hx5 hg5; have HB5 : Hid (BoxN w5 (w.heap.size + 1 + 1) 29 #[.bool z, .int .i64 k] ∧ BoxN w5 (w.heap.size + 1 + 1 + 1) 3 #[.int .i64 (n : Int)] ∧ BoxN w5 (w.heap.size + 1 + 1 + 1 + 1) 25 #[.int .i64 0] ∧ Below w.heap.size w w5) := ⟨hx5, HD1.out.kept hg5 (fun e => by have := Option.some.inj e; omega), HR1.out.1.be.kept hg5 (fun e => by have := Option.some.inj e; omega), HR1.out.2.grown hg5 HR1.out.2.size (fun k e => by cases e; omega)⟩; clear hx5 hg5))
    have b0 := HB5.out.1.cell 0
    have b1 := HB5.out.1.cell 1
    have b2 := HB5.out.2.1.cell 0
    have b3 := HB5.out.2.2.1.cell 0
    have f0 := HB5.out.1.frozen 0
    have f1 := HB5.out.1.frozen 1
    have f2 := HB5.out.2.1.frozen 0
    have f3 := HB5.out.2.2.1.frozen 0
    simp only [List.getElem?_toArray, List.getElem?_cons_zero, List.getElem?_cons_succ] at b0 b1 b2 b3
    have HF : Hid _ := fin_an HB5.out.1 HB5.out.2.1 HB5.out.2.2.1 HB5.out.2.2.2 z k (n : Int) 0 (by omega) (by omega) (by omega) (by omega) (by omega) (by omega)
    go_region
    all_goals
      clear b0 b1 b2 b3 f0 f1 f2 f3
      go_wp2_with fail
      refine leaves_cons (f := 72) (args := #[.pointer (some ⟨w.heap.size + 1 + 1, 0, none⟩), .pointer (some ⟨w.heap.size + 1 + 1 + 1, 0, none⟩), .pointer (some ⟨w.heap.size + 1 + 1 + 1 + 1, 0, none⟩)]) (by simp) (by simp [go_sem]) ?_
      refine (catch_idle _ _ _ _).mono ?_
      rintro e u' w'' ⟨rfl, rfl, hw⟩
      obtain ⟨k1, k2, k3, k4⟩ := HF.out
      have k1 := k1.alloc (.cells #[] 133)
      have k2 := k2.alloc (.cells #[] 133)
      have k3 := k3.alloc (.cells #[] 133)
      have k4 := k4.alloc k4.size (.cells #[] 133)
      rw [← hw] at k1 k2 k3 k4
      have c1 := k1.cell
      have c2 := k2.cell
      have c3 := k3.cell
      clear hw HF
      simp [Leaves, settle, results, Try.results43, go_sem, c1, c2, c3]
      exact k4
  · rw [if_neg hn] at hcl ⊢
    have hcl := hcl _ rfl
    unfold TryR thrownV at hcl
    simp only at hcl
    rw [show ((0 : Nat) : Int) = 0 from rfl] at hcl
    unfold oval ocells
    go_enter_defers Try.func43, Try.ntmps43
    go_wp2_with (go_at_call 74; refine hcl.mono ?_; rintro e1 W1 ⟨rfl, hk1, y1, hj1⟩; have HR1 : Hid _ := HR.out W1 hk1; have HD1 : Hid (BoxN W1 (w.heap.size + 1 + 1 + 1) 3 #[.int .i64 (y1 : Int)]) := hj1.bd; clear hk1 hj1 hcl)
    refine leaves_cons (f := 72) (args := #[.pointer (some ⟨w.heap.size + 1 + 1, 0, none⟩), .pointer (some ⟨w.heap.size + 1 + 1 + 1, 0, none⟩), .pointer (some ⟨w.heap.size + 1 + 1 + 1 + 1, 0, none⟩)]) (by simp) (by simp [go_sem]) ?_
    refine (catch_panicking _ _ _ _ _ _ _ _ HR1.out.1.bo HD1.out HR1.out.1.be (by omega) (by omega) (by omega)).mono ?_
    rintro e u' w'' ⟨rfl, rfl, hw⟩
    have hA := (Below.refl W1.heap.size W1).alloc (Nat.le_refl _) (.cells #[] 133)
    have HF : Hid _ := fin_an (w := w) (HR1.out.1.bo.alloc (.cells #[] 133)) (HD1.out.alloc (.cells #[] 133)) (HR1.out.1.be.alloc (.cells #[] 133)) (HR1.out.2.alloc HR1.out.2.size (.cells #[] 133)) false 0 0 10 (by omega) (by omega) (by omega) (by omega) (by omega) (by omega)
    obtain ⟨k1, k2, k3, k4⟩ := HF.out
    have k1 : BoxN w'' (w.heap.size + 1 + 1) 29 #[.bool false, .int .i64 0] := by rw [hw]; exact k1
    have k2 : BoxN w'' (w.heap.size + 1 + 1 + 1) 3 #[.int .i64 0] := by rw [hw]; exact k2
    have k3 : BoxN w'' (w.heap.size + 1 + 1 + 1 + 1) 25 #[.int .i64 10] := by rw [hw]; exact k3
    have k4 : Below w.heap.size w w'' := by rw [hw]; exact ⟨k4.os, k4.tape, k4.output, k4.size, k4.block⟩
    have c1 := k1.cell
    have c2 := k2.cell
    have c3 := k3.cell
    clear hw HF hA
    simp [Leaves, settle, results, Try.results43, go_sem, c1, c2, c3]
    exact k4
end Go.Proofs.Ytokdaapmejccbaa
