import Derived.Test.YtbeohmcmphebhaaLawN
import Derived.Test.YtbeohmcmphebhaaSel
namespace Go.Proofs.Ytbeohmcmphebhaa
open Go.RowKit
set_option linter.unusedVariables false
set_option maxRecDepth 20000 in
set_option maxHeartbeats 4000000 in
theorem index_any (B c : Nat) (m : List Bool) (w : World) (h : Mk w B m) (hall : ∀ j : Nat, j < m.length → m[j]? = some true) (hl : m.length ≤ 10) :
    Calls Try.prog 29 #[.slice (some ⟨B, 0, none⟩) m.length c, .bool false] w fun e W' => e = .returned (.int .i64 (-1)) ∧ W' = w := by
  go_enter Try.func29, Try.ntmps29
  go_wp2_with fail
  go_loopw [8] (fun p wr => ∃ i : Nat, p = .int .i64 i ∧ i ≤ m.length ∧ wr = w) (fun p _ => m.length - (intOf p).toNat)
  case atStart => exact ⟨0, rfl, Nat.zero_le _, rfl⟩
  case round =>
    obtain ⟨i, rfl, hi, rfl⟩ := hrel
    by_cases hend : i = m.length
    · have g1 : decide (i < m.length) = false := by simp; omega
      clear hend
      go_wp2_with fail
      go_ret
      exact ⟨rfl, rfl⟩
    · have hil : i < m.length := by omega
      clear hend
      have c1 := h.cell (hall i hil)
      go_wp2_with fail
      exact ⟨⟨i + 1, by go_num, by omega, trivial⟩, by simp [intOf]; omega⟩
set_option maxRecDepth 20000 in
theorem contains_any (B c : Nat) (m : List Bool) (w : World) (h : Mk w B m) (hall : ∀ j : Nat, j < m.length → m[j]? = some true) (hl : m.length ≤ 10) :
    Calls Try.prog 18 #[.slice (some ⟨B, 0, none⟩) m.length c, .bool false] w fun e W' => e = .returned (.bool false) ∧ W' = w := by
  have hix := index_any B c m w h hall hl
  go_enter Try.func18, Try.ntmps18
  go_wp2_with (go_at_call 29; refine hix.mono ?_; rintro e W1 ⟨rfl, rfl⟩)
  go_ret
  exact ⟨rfl, rfl⟩
/-- The grammar that the law makes. -/
def e1 : Ex := .mk 1 0#256 ⟨#[]⟩ none 0 []
def l0 : List Rl := [(⟨#[97]⟩, e1), (⟨#[98]⟩, e1)]
theorem e1_check : check e1 = 0 := by
  unfold check e1
  rw [Ex.nodes, Ex.nodes.nodesL]
  rw [chk, if_neg (by omega), if_neg (by omega), chk]
  have : formOk (.mk 1 0#256 ⟨#[]⟩ none 0 []) = true := by decide +kernel
  rw [if_pos this]
theorem e1_refs : refsR e1 = [] := by
  unfold refsR
  rw [if_pos e1_check]
  unfold e1
  rw [Ex.nodes, Ex.nodes.nodesL]
  rfl
theorem e1_size : sizeR e1 = 1 := by
  unfold sizeR
  rw [if_pos e1_check]
  unfold e1
  rw [Ex.nodes, Ex.nodes.nodesL]
  rfl
theorem l0_check : gcheck l0 = 0 := by
  have h1 : rulesChk l0 0 l0 = 0 := by
    unfold l0
    rw [rulesChk_next, rulesChk_next, rulesChk]
    · unfold ruleChk
      rw [if_neg (by decide +kernel), if_neg (by decide +kernel)]; exact e1_check
    · unfold ruleChk
      rw [if_neg (by decide +kernel), if_neg (by decide +kernel)]; exact e1_check
  have h2 : gcount l0 = 2 := by unfold l0; rw [gcount, gcount, gcount, e1_size]; rfl
  have h3 : named l0 l0 = true := named_all _ _ fun r hr s hs => by
    have : r.2 = e1 := by
      unfold l0 at hr
      simp at hr
      rcases hr with rfl | rfl <;> rfl
    rw [this, e1_refs] at hs
    cases hs
  unfold gcheck
  rw [if_neg (by decide), if_neg (by decide), h1, if_neg (by simp), h2, if_neg (by omega), if_pos h3]
theorem l0_nxt (i : Nat) : nxt l0 i = [] := by
  unfold nxt
  split
  · rename_i r hr
    have : r.2 = e1 := by
      have := List.mem_of_getElem? hr
      unfold l0 at this
      simp at this
      rcases this with rfl | rfl <;> rfl
    unfold insR
    rw [this, e1_refs]; rfl
  · rfl
theorem l0_isR {m : List Bool} (h : IsR (nxt l0) l0.length m) : m = [true, false] := by
  refine h.uniq ⟨rfl, fun j hj => ⟨fun h1 => ?_, fun ⟨k, hk⟩ => ?_⟩⟩
  · match j, hj with
    | 0, _ => exact Rc.refl _ _
    | 1, _ => simp at h1
  · cases k with
    | zero => rw [Rk] at hk; subst hk; rfl
    | succ k => obtain ⟨q, hq, _⟩ := hk; rw [l0_nxt] at hq; cases hq
def c16 : Array Value := #[.string ⟨#[97]⟩, .int .i64 1, .int .u64 0, .int .u64 0, .int .u64 0, .int .u64 0, .string ⟨#[]⟩, .slice none 0 0, .string ⟨#[98]⟩, .int .i64 1, .int .u64 0, .int .u64 0, .int .u64 0, .int .u64 0, .string ⟨#[]⟩, .slice none 0 0]
theorem c16_eq : c16 = #[.string ⟨#[97]⟩, .int .i64 1, .int .u64 0, .int .u64 0, .int .u64 0, .int .u64 0, .string ⟨#[]⟩, .slice none 0 0, .string ⟨#[98]⟩, .int .i64 1, .int .u64 0, .int .u64 0, .int .u64 0, .int .u64 0, .string ⟨#[]⟩, .slice none 0 0] := rfl
def g0 (B : Nat) : Gr := ⟨some ⟨B, 0, none⟩, 2, l0⟩
theorem g0_in (w : World) : (g0 w.heap.size).In (w.alloc (.cells c16 48)).heap.size (w.alloc (.cells c16 48)) := by
  have bx := BoxN.new w 48 c16
  have hz : ∀ k, wd 0#256 k = 0 := wd_zero
  refine ⟨by show (2 : Nat) ≤ _; omega, fun j r hr => ?_⟩
  have hb : e1.In (w.alloc (.cells c16 48)).heap.size (w.alloc (.cells c16 48)) := by
    unfold e1; rw [Ex.In, Ex.In.InL]; exact ⟨⟨by simp, by decide⟩, trivial⟩
  match j, hr with
  | 0, hr =>
    cases hr
    refine ⟨⟨_, _, rfl, by simp, fun m hm => ?_⟩, by decide, hb⟩
    rw [bx.cell]
    match m, hm with
    | 0, _ => rfl
    | 1, _ => rfl
    | 2, _ => simp [rcell, c16, e1, Ex.S, hz]
    | 3, _ => simp [rcell, c16, e1, Ex.S, hz]
    | 4, _ => simp [rcell, c16, e1, Ex.S, hz]
    | 5, _ => simp [rcell, c16, e1, Ex.S, hz]
    | 6, _ => rfl
    | 7, _ => rfl
  | 1, hr =>
    cases hr
    refine ⟨⟨_, _, rfl, by simp, fun m hm => ?_⟩, by decide, hb⟩
    rw [bx.cell]
    match m, hm with
    | 0, _ => rfl
    | 1, _ => rfl
    | 2, _ => simp [rcell, c16, e1, Ex.S, hz]
    | 3, _ => simp [rcell, c16, e1, Ex.S, hz]
    | 4, _ => simp [rcell, c16, e1, Ex.S, hz]
    | 5, _ => simp [rcell, c16, e1, Ex.S, hz]
    | 6, _ => rfl
    | 7, _ => rfl
  | j + 2, hr => simp [g0, l0] at hr
def rcsL (l : List Rl) : List Value := l.flatMap rcell
theorem rcsL_len : ∀ l : List Rl, (rcsL l).length = l.length * 8
  | [] => rfl
  | x :: r => by rw [show rcsL (x :: r) = rcell x ++ rcsL r from rfl, List.length_append, rcsL_len r, List.length_cons]; show 8 + _ = _; omega
theorem rcsL_at : ∀ (l : List Rl) (i j : Nat) (x : Rl), l[i]? = some x → j < 8 → (rcsL l)[i * 8 + j]? = (rcell x)[j]?
  | [], i, j, x, h, _ => by simp at h
  | y :: r, 0, j, x, h, hj => by
    simp at h; subst h
    rw [show rcsL (y :: r) = rcell y ++ rcsL r from rfl, Nat.zero_mul, Nat.zero_add, List.getElem?_append_left (by show j < 8; exact hj)]
  | y :: r, i + 1, j, x, h, hj => by
    rw [show rcsL (y :: r) = rcell y ++ rcsL r from rfl, List.getElem?_append_right (by show 8 ≤ _; omega), show (i + 1) * 8 + j - (rcell y).length = i * 8 + j from by show _ - 8 = _; omega]
    exact rcsL_at r i j x (by simpa using h) hj
theorem rcsL_app (l : List Rl) (x : Rl) : rcsL (l ++ [x]) = rcsL l ++ rcell x := by simp [rcsL]
theorem rcell_one (x : Rl) : ∀ u ∈ rcell x, u.oneCell' = true := by
  intro u hu
  simp [rcell] at hu
  rcases hu with rfl | rfl | rfl | rfl | rfl | rfl | rfl | rfl <;> rfl
theorem Try.info48 : (Try.prog.info? 48).map (fun i => (i.zero, i.size, i.bytes)) = some (some (.agg #[.string ⟨#[]⟩, .int .i64 0, .int .u64 0, .int .u64 0, .int .u64 0, .int .u64 0, .string ⟨#[]⟩, .slice none 0 0]), 8, 96) := by kernel_rfl
/-- Where the loop that picks stands. -/
structure Pk (Wk wr : World) (N : Nat) (v : Value) (l : List Rl) : Prop where
  box : BoxN wr N 24 #[v]
  own : wr.ownsRow (N + 1) 48 8 v l.length (rcsL l)
  low : Below N Wk wr
theorem Pk.form {Wk wr : World} {N : Nat} {v : Value} {l : List Rl} (h : Pk Wk wr N v l) : ∃ a c, v = .slice a l.length c := by
  rcases h.own.2 with ⟨rfl, h0⟩ | ⟨g, cap, cur, rfl, _⟩
  · exact ⟨none, 0, by rw [h0]⟩
  · exact ⟨_, _, rfl⟩
theorem Pk.gr {Wk wr : World} {N : Nat} {a : Option Addr} {c : Nat} {l : List Rl} (h : Pk Wk wr N (.slice a l.length c) l) (hl : l.length ≤ 10) (hi : ∀ r ∈ l, r.1.size ≤ 140737488355328 ∧ r.2.In N wr) : Gr.In wr.heap.size wr ⟨a, c, l⟩ := by
  refine ⟨by show l.length ≤ _; omega, fun j r hr => ?_⟩
  have hr' : l[j]? = some r := hr
  have hpos : 0 < l.length := by have := (List.getElem?_eq_some_iff.1 hr').1; omega
  obtain ⟨g, cap, hv, hg1, hg2⟩ := World.ownsRow.form h.own hpos
  injection hv with e1 _ e3
  subst e1 e3
  have hb := h.box.lt
  refine ⟨⟨g, 0, rfl, hg2, fun m hm => ?_⟩, (hi r (List.mem_of_getElem? hr')).1, (hi r (List.mem_of_getElem? hr')).2.mono (by omega)⟩
  obtain ⟨u, hu⟩ : ∃ u, (rcell r)[m]? = some u := ⟨_, List.getElem?_eq_getElem (by show m < 8; exact hm)⟩
  have h1 := rcsL_at l j m r hr' hm
  rw [hu] at h1 ⊢
  have := World.ownsRow.cells h.own (g := g) rfl _ _ h1
  rwa [Addr.add_lit, ← Nat.add_assoc] at this
theorem sel_len_le (m : List Bool) (l : List Rl) : (sel m l).length ≤ l.length := (sel_sub m l).length_le
set_option maxRecDepth 20000 in
set_option maxHeartbeats 8000000 in
theorem gramReaches_any (g : Gr) (w : World) (hin : g.In w.heap.size w) :
    Calls Try.prog 6 #[g.val] w fun r W' => r = .returned (.bool true) ∧ Below w.heap.size w W' := by
  obtain ⟨i0, hi, hz⟩ : ∃ i0, Try.prog.info? 48 = some i0 ∧ (i0.zero, i0.size, i0.bytes) = (some (.agg #[.string ⟨#[]⟩, .int .i64 0, .int .u64 0, .int .u64 0, .int .u64 0, .int .u64 0, .string ⟨#[]⟩, .slice none 0 0]), 8, 96) := by
    simpa [Option.map_eq_some_iff] using Try.info48
  simp only [Prod.mk.injEq] at hz
  obtain ⟨hz0, hz1, hz2⟩ := hz
  have hA := (Below.refl w.heap.size w).alloc (Nat.le_refl _) (.cells #[.slice g.a g.rules.length g.c] 24)
  have hA2 := hA.alloc hA.size (.cells c16 48)
  have bG := (BoxN.new w 24 #[.slice g.a g.rules.length g.c]).alloc (.cells c16 48)
  have hr0 := reach_any _ _ (g0_in (w.alloc (.cells #[.slice g.a g.rules.length g.c] 24)))
  have hg0 : (g0 (w.alloc (.cells #[.slice g.a g.rules.length g.c] 24)).heap.size).val = .agg #[.slice (some ⟨w.heap.size + 1, 0, none⟩) 2 2] := by unfold g0 Gr.val; simp [l0]
  have hgl : (g0 (w.alloc (.cells #[.slice g.a g.rules.length g.c] 24)).heap.size).rules = l0 := rfl
  rw [hg0, hgl] at hr0
  unfold ReachR at hr0
  rw [l0_check] at hr0
  simp only [↓reduceIte] at hr0
  have HN : Hid (∀ {W}, Below ((w.alloc (.cells #[.slice g.a g.rules.length g.c] 24)).alloc (.cells c16 48)).heap.size ((w.alloc (.cells #[.slice g.a g.rules.length g.c] 24)).alloc (.cells c16 48)) W → Below w.heap.size w W ∧ BoxN W w.heap.size 24 #[.slice g.a g.rules.length g.c]) := fun h => ⟨hA2.trans (h.mono hA2.size), bG.below h (by simp; omega)⟩
  have HS : Hid (∀ {W W2 : World}, Below w.heap.size w W ∧ BoxN W w.heap.size 24 #[.slice g.a g.rules.length g.c] → Below W.heap.size W W2 → Below w.heap.size w W2 ∧ BoxN W2 w.heap.size 24 #[.slice g.a g.rules.length g.c]) := fun h hb => ⟨h.1.trans (hb.mono h.1.size), h.2.below hb h.2.lt⟩
  have hrg : ∀ W, Below w.heap.size w W → _ := fun W h => reach_any g W (hin.grow h)
  unfold ReachR at hrg
  have HI : Hid (g.In w.heap.size w) := hin
  have HG : Hid (gcheck g.rules = 0 → GOk g.rules) := gcheck_ok
  rw [gval_eq] at hrg ⊢
  rw [c16_eq] at hr0 HN
  generalize gcheck g.rules = C at *
  clear hA hA2 bG hin hg0 hgl
  by_cases h0 : C = 0
  · subst h0
    simp only [↓reduceIte] at hrg
    have HO : Hid (GOk g.rules) := HG.out rfl
    have h10 := HO.out.most
    go_enter Try.func6, Try.ntmps6
    go_wp2_with (first
      | (go_at_call 12; refine hr0.mono ?_; rintro e W1 ⟨v, rfl, ⟨B1, m1, rfl, hB1, hM1, hR1⟩, hb1⟩; have k1 := HN.out hb1; have hm1 := l0_isR hR1; subst hm1; have hM1' : Mk (W1.alloc (.cells #[.bool true, .bool false] 4)) B1 [true, false] := BoxN.alloc hM1 _; have heq := equal_any B1 W1.heap.size l0.length 2 [true, false] (W1.alloc (.cells #[.bool true, .bool false] 4)) hM1' (BoxN.new W1 4 _) (by decide); have k1' := HS.out k1 ((Below.refl _ W1).alloc (Nat.le_refl _) (.cells #[.bool true, .bool false] 4)); clear hb1 hr0 hM1 hR1)
      | (go_at_call 14; refine heq.mono ?_; rintro e W2 ⟨rfl, hb2⟩; have k2 := HS.out k1' hb2; have c2 := k2.2.cell 0; simp only [List.getElem?_toArray, List.getElem?_cons_zero] at c2; have hr2 := hrg _ k2.1; clear hb2 heq hM1' hrg)
      | (go_at_call 12; refine hr2.mono ?_; rintro e W3 ⟨v, rfl, ⟨B3, m3, rfl, hB3, hM3, hR3⟩, hb3⟩; have k3 := HS.out k2 hb3; have c3 := k3.2.cell 0; simp only [List.getElem?_toArray, List.getElem?_cons_zero] at c3; have c3' : (W3.alloc (.cells #[.slice none 0 0] 24)).cell? ⟨w.heap.size, 0, none⟩ = some (.slice g.a g.rules.length g.c) := (k3.2.alloc _).cell 0; clear hb3 hr2 c2))
    have HP : Hid (Prt g.rules m3) := ⟨HO.out, hR3⟩
    have H3 : Hid (Below w.heap.size w W3 ∧ BoxN W3 w.heap.size 24 #[.slice g.a g.rules.length g.c] ∧ Mk W3 B3 m3) := ⟨k3.1, k3.2, hM3⟩
    have hBs : B3 < W3.heap.size := hM3.lt
    have hml : m3.length = g.rules.length := hR3.1
    clear c3 c3' k3 k2 k1' k1 hM3 hR3 HG HO hB3 hB1 HN
    go_loopw [54] (fun p wr => ∃ (i : Nat) (v : Value), p = .int .i64 i ∧ i ≤ g.rules.length ∧ Hid (Pk W3 wr W3.heap.size v (sel (m3.take i) (g.rules.take i)))) (fun p _ => g.rules.length - (intOf p).toNat)
    case atStart => exact ⟨0, .slice none 0 0, rfl, Nat.zero_le _, BoxN.new W3 24 _, World.ownsRow_nil _ _ _ _, (Below.refl _ W3).alloc (Nat.le_refl _) _⟩
    case round =>
      obtain ⟨i, v, rfl, hil, HQ⟩ := hrel
      obtain ⟨av, cv, rfl⟩ := HQ.out.form
      have hs3 := HQ.out.low.size
      by_cases hend : i = g.rules.length
      · have hS : sel (m3.take i) (g.rules.take i) = sel m3 g.rules := by rw [hend, List.take_length, ← hml, List.take_length]
        rw [hS] at HQ
        have g1 : decide (i < g.rules.length) = false := by simp; omega
        have hsl := sel_len_le m3 g.rules
        have hgi : Gr.In wr.heap.size wr ⟨av, cv, sel m3 g.rules⟩ := HQ.out.gr (by omega) fun r hr => by
          obtain ⟨q, hq1, hq2⟩ := mem_sel m3 g.rules r hr
          have hru := (HI.out.below (H3.out.1.trans (HQ.out.low.mono H3.out.1.size))).rule q r hq2
          exact ⟨hru.name, hru.body.mono H3.out.1.size⟩
        have hre := reach_any _ wr hgi
        rw [gval_eq] at hre
        simp only at hre
        unfold ReachR at hre
        rw [HP.out.check] at hre
        simp only [↓reduceIte] at hre
        have HAll : Hid (∀ m', IsR (nxt (sel m3 g.rules)) (sel m3 g.rules).length m' → ∀ j : Nat, j < (sel m3 g.rules).length → m'[j]? = some true) := fun m' h' => HP.out.all h'
        have cN := HQ.out.box.cell 0
        simp only [List.getElem?_toArray, List.getElem?_cons_zero] at cN
        have HW : Hid (∀ {W}, Below wr.heap.size wr W → Below w.heap.size w W ∧ W.cell? ⟨W3.heap.size, 0, none⟩ = some (.slice av (sel m3 g.rules).length cv)) := fun h => ⟨(H3.out.1.trans (HQ.out.low.mono H3.out.1.size)).trans (h.mono (by have := H3.out.1.size; omega)), (h.cell (p := ⟨W3.heap.size, 0, none⟩) HQ.out.box.lt).trans cN⟩
        generalize sel m3 g.rules = S at *
        have hll : ((S.length : Int) == (S.length : Int)) = true := by simp
        clear hend hS hgi HQ
        go_wp2_with (first
          | (go_at_call 12; refine hre.mono ?_; rintro e W4 ⟨v, rfl, ⟨B4, m4, rfl, hB4, hM4, hR4⟩, hb4⟩; have k4 := HW.out hb4; have c4 := k4.2; have hc4 := contains_any B4 S.length m4 W4 hM4 (by rw [hR4.1]; exact HAll.out m4 hR4) (by rw [hR4.1]; omega); rw [hR4.1] at hc4; clear hb4 hre)
          | (go_at_call 18; refine hc4.mono ?_; rintro e W5 ⟨rfl, rfl⟩))
        go_ret
        exact ⟨rfl, k4.1⟩
      · have hlt : i < g.rules.length := by omega
        clear hend
        obtain ⟨x, hx⟩ : ∃ x, g.rules[i]? = some x := ⟨_, List.getElem?_eq_getElem hlt⟩
        have hru := (HI.out.below (H3.out.1.trans (HQ.out.low.mono H3.out.1.size))).rule i x hx
        obtain ⟨b, o, ha, hb, c0, c1, c2, c3, c4, c5, c6, c7⟩ := rcells hru
        obtain ⟨bi, hbi⟩ := bool_of (m := m3) (i := i) (by omega)
        have cm := Mk.cell (BoxN.alloc (BoxN.below H3.out.2.2 HQ.out.low hBs) (.cells (rcell x).toArray 48)) hbi
        have hst := sel_take m3 g.rules i bi x hbi hx
        have hsl := sel_len_le (m3.take i) (g.rules.take i)
        rw [List.length_take] at hsl
        have bN := HQ.out.box.alloc (.cells (rcell x).toArray 48)
        have cN := bN.cell 0
        simp only [List.getElem?_toArray, List.getElem?_cons_zero] at cN
        rw [rcell_eq] at cm cN
        generalize hS : sel (m3.take i) (g.rules.take i) = S at *
        rw [ha]
        clear hx hru hbi hS hb
        cases bi with
        | false =>
          have HE : Hid (Pk W3 (wr.alloc (.cells (rcell x).toArray 48)) W3.heap.size (.slice av S.length cv) (sel (m3.take (i + 1)) (g.rules.take (i + 1)))) := by
            rw [hst]
            simp only [Bool.false_eq_true, if_false, List.append_nil]
            exact ⟨bN, World.ownsRow.alloc HQ.out.own _, HQ.out.low.alloc hs3 _⟩
          rw [rcell_eq] at HE
          clear hst HQ bN
          go_wp2_with fail
          exact ⟨⟨i + 1, _, by go_num, by omega, HE⟩, by simp [intOf]; omega⟩
        | true =>
          simp only [if_true] at hst
          have hown := World.ownsRow.alloc (World.ownsRow.alloc HQ.out.own (.cells (rcell x).toArray 48)) (.cells (rcell x).toArray 48)
          have hnews := World.news_of_block (World.alloc_heap_new (wr.alloc (.cells (rcell x).toArray 48)) (.cells (rcell x).toArray 48))
          have HB : Hid (BoxN ((wr.alloc (.cells (rcell x).toArray 48)).alloc (.cells (rcell x).toArray 48)) W3.heap.size 24 #[.slice av S.length cv] ∧ Below W3.heap.size W3 ((wr.alloc (.cells (rcell x).toArray 48)).alloc (.cells (rcell x).toArray 48)) ∧ wr.ownsRow (W3.heap.size + 1) 48 8 (.slice av S.length cv) S.length (rcsL S) ∧ W3.heap.size < wr.heap.size) := ⟨bN.alloc _, (HQ.out.low.alloc hs3 _).alloc (by simp; omega) _, HQ.out.own, HQ.out.box.lt⟩
          have hNl := HQ.out.box.lt
          have HT : Hid _ := hst
          rw [rcell_eq] at hown hnews
          have hown' : Hid _ := hown
          have hnews' : Hid _ := hnews
          clear hst HQ bN hown hnews
          go_wp2_with (at_builtin; refine wpList_append_lies _ rfl _ _ 22 rfl (W3.heap.size + 1) 48 i0 _ 8 96 Try.underlying22 hi hz0 hz1 hz2 rfl (by decide) _ S.length (rcsL S) rfl hown'.out ⟨wr.heap.size + 1, 0, none⟩ 1 1 (rcell x) rfl rfl ?d1 (rcell_one x) (by omega) ?d3 ?d4 ?d5 (wr.heap.size + 2) (by simp) ?_)
          case d1 => simp [rcell_eq]
          case d3 => unfold maxLen; omega
          case d4 => omega
          case d5 => first | omega | (simp; omega)
          intro g8 cap8 w8 hown8 hgr8 hor8 hg8
          have bB : BoxN w8 W3.heap.size 24 #[.slice av S.length cv] := by
            have hk := HB.out.1
            rw [rcell_eq] at hk
            exact hk.kept hgr8 (fun e => by have := World.ownsRow.lt HB.out.2.2.1 W3.heap.size e.symm; omega)
          have hlw : Below W3.heap.size W3 w8 := by
            have hk := HB.out.2.1
            rw [rcell_eq] at hk
            exact hk.grown hgr8 (by simp; omega) (fun z hz => by have := World.ownsRow.lt HB.out.2.2.1 z hz; omega)
          have c8 := bB.cell 0
          simp only [List.getElem?_toArray, List.getElem?_cons_zero] at c8
          have f8 : w8.frozen? ⟨W3.heap.size, 0, none⟩ = false := by simp [World.frozen?, show w8.heap[W3.heap.size]? = _ from bB]
          have HE : Hid (Pk W3 (w8.setCell ⟨W3.heap.size, 0, none⟩ (.slice (some ⟨g8, 0, none⟩) (S.length + 1) cap8)) W3.heap.size (.slice (some ⟨g8, 0, none⟩) (S.length + 1) cap8) (sel (m3.take (i + 1)) (g.rules.take (i + 1)))) := by
            rw [HT.out]
            refine ⟨one_setCell bB, ?_, hlw.setCell (Nat.le_refl _) _⟩
            rw [rcsL_app, List.length_append]
            exact ownsRow_setCell_below hown8 (Nat.lt_succ_self _) _
          clear hown8 hgr8 hor8 hg8 bB hlw HB HT hown' hnews'
          go_wp2_with fail
          exact ⟨⟨i + 1, _, by go_num, by omega, HE⟩, by simp [intOf]; omega⟩
  · have g1 : (C != 0) = true := by simpa using h0
    simp only [h0, ↓reduceIte] at hrg
    go_enter Try.func6, Try.ntmps6
    go_wp2_with (first
      | (go_at_call 12; refine hr0.mono ?_; rintro e W1 ⟨v, rfl, ⟨B1, m1, rfl, hB1, hM1, hR1⟩, hb1⟩; have k1 := HN.out hb1; have hm1 := l0_isR hR1; subst hm1; have hM1' : Mk (W1.alloc (.cells #[.bool true, .bool false] 4)) B1 [true, false] := BoxN.alloc hM1 _; have heq := equal_any B1 W1.heap.size l0.length 2 [true, false] (W1.alloc (.cells #[.bool true, .bool false] 4)) hM1' (BoxN.new W1 4 _) (by decide); have k1' := HS.out k1 ((Below.refl _ W1).alloc (Nat.le_refl _) (.cells #[.bool true, .bool false] 4)); clear hb1 hr0 hM1 hR1)
      | (go_at_call 14; refine heq.mono ?_; rintro e W2 ⟨rfl, hb2⟩; have k2 := HS.out k1' hb2; have c2 := k2.2.cell 0; simp only [List.getElem?_toArray, List.getElem?_cons_zero] at c2; have hr2 := hrg _ k2.1; clear hb2 heq hM1' hrg)
      | (go_at_call 12; refine hr2.mono ?_; rintro e W3 ⟨v, rfl, rfl, hb3⟩; have k3 := HS.out k2 hb3; clear hb3 hr2 c2))
    go_ret
    exact ⟨rfl, k3.1⟩
end Go.Proofs.Ytbeohmcmphebhaa
