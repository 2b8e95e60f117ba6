import Derived.Test.YtokdaapmejccbaaXCheck
import Derived.BigRegion
import Derived.WalkSpells
import Derived.WalkLawsBesides
namespace Go.Proofs.Ytokdaapmejccbaa
open Go.RowKit Go.Shelf
open Ex.In (InL)
attribute [local go_sem] Oper.semAt_some
theorem chk_len : ∀ (l : List (Int × Ex)) (n : Nat), n ≤ 60 → chk n l = 0 → n + l.length ≤ 60
  | [], n, h, _ => by simpa using h
  | (d, x) :: r, n, h, hc => by
    rw [chk] at hc
    split at hc
    · cases hc
    split at hc
    · cases hc
    split at hc
    · have := chk_len r (n + 1) (by omega) hc
      simp; omega
    · cases hc
theorem check_len (e : Ex) (h : check e = 0) : (e.nodes 1).length ≤ 60 := by
  have := chk_len (e.nodes 1) 0 (by omega) h
  omega
theorem Ex.In.mono {n m : Nat} {A : World} (h : n ≤ m) : ∀ {e : Ex}, Ex.In n A e → Ex.In m A e
  | .mk _ _ _ _ _ kids, hi => by
    rw [Ex.In] at hi ⊢
    exact ⟨hi.1, go h kids hi.2⟩
  where
  go {n m : Nat} {A : World} (h : n ≤ m) {a : Option Addr} : ∀ {i : Nat} (l : List Ex), InL n A a i l → InL m A a i l
    | _, [], _ => by rw [InL]; trivial
    | i, e :: r, hi => by
      rw [InL] at hi ⊢
      obtain ⟨⟨b, o, ha, hb, hc⟩, h1, h2⟩ := hi
      exact ⟨⟨b, o, ha, Nat.lt_of_lt_of_le hb h, hc⟩, Ex.In.mono h h1, go h r h2⟩
theorem InL.mono {n m : Nat} {A : World} (h : n ≤ m) {a : Option Addr} : ∀ {i : Nat} (l : List Ex), InL n A a i l → InL m A a i l := Ex.In.mono.go h
/-- Grown by what is new alone. -/
theorem Ex.In.grow {A B : World} {e : Ex} (h : e.In A.heap.size A) (hb : Below A.heap.size A B) : e.In B.heap.size B := (h.below hb).mono hb.size
def sizeR (e : Ex) : Int := if check e = 0 then ((e.nodes 1).length : Int) else 0
set_option maxRecDepth 100000 in
set_option maxHeartbeats 2000000 in
theorem size_in (n : Nat) (hn : 4 ≤ n) (e : Ex) (w : World) (hin : e.In w.heap.size w) :
    CallsIn Fence.wide n Try.prog 87 #[e.val] w fun r W' => r = .returned (.tuple #[.int .i64 (sizeR e), .int .i64 (check e)]) ∧ Below w.heap.size w W' := by
  have h1 : 1 ≤ n := by omega
  have hdd : ∀ k : Nat, (Fence.wide.depth.isSome = true → 1 ≤ k) := fun k h => by cases h
  have hnodes := fun w => nodes_in (n - 1) e w
  have hA := (Below.refl w.heap.size w).alloc (Nat.le_refl _) (.cells e.cells 57)
  have hcheck := check_in (n - 1) (by omega) e (w.alloc (.cells e.cells 57)) (hin.grow hA)
  have bE := BoxN.new w 57 e.cells
  refine callsIn_of_wp_marks Try.func87 rfl trivial ?_ rfl
  rw [val_eq] at hnodes hcheck ⊢
  simp only [Try.ntmps87, List.size_toArray, List.length_cons, List.length_nil, Nat.reduceAdd, Nat.reduceSub, Array.replicate_succ, Array.replicate_zero, List.push_toArray, List.append_toArray, List.nil_append, List.cons_append]
  simp only [cells_eq] at hcheck
  obtain ⟨R, hR⟩ : ∃ R, sizeR e = R := ⟨_, rfl⟩
  have HS : Hid (sizeR e = R) := hR
  rw [hR]
  clear hR
  have hE1 : ∀ {W1 : World}, Below (w.alloc (.cells e.cells 57)).heap.size (w.alloc (.cells e.cells 57)) W1 → BoxN W1 w.heap.size 57 e.cells ∧ Below w.heap.size w W1 := fun hb => ⟨bE.below hb (by simp), hA.trans (hb.mono (by simp))⟩
  have HE : Hid _ := @hE1
  clear hE1
  by_cases h0 : check e = 0
  · rw [h0] at hcheck ⊢
    gi_wp2_with (first
      | ((try refine ⟨trivial, ?_⟩); gi_at_call 86; refine hcheck.mono ?_; rintro r W1 ⟨rfl, hb1⟩; simp only [← cells_eq] at hb1; have bE1 := HE.out hb1; have cE1 := bE1.1.cell; have cE2 := (bE1.1.alloc (.cells #[.int .i64 0] 3)).cell; rw [cells_eq] at cE1 cE2; clear hb1 hcheck)
      | ((try refine ⟨trivial, ?_⟩); gi_at_call 115; refine (hnodes _).mono ?_; rintro r w' ⟨rfl, rfl⟩))
    simp only [← cells_eq]
    clear hnodes cE1 cE2 HE bE hA
    obtain ⟨bE1, hB1⟩ := bE1
    have bC := (Boxed.new W1 3 (.int .i64 0)).alloc (.cells e.cells 57)
    have bN := BoxN.new (W1.alloc (.cells #[.int .i64 0] 3)) 57 e.cells
    have hB0 : Below w.heap.size w ((W1.alloc (.cells #[.int .i64 0] 3)).alloc (.cells e.cells 57)) := (hB1.alloc hB1.size _).alloc (by have := hB1.size; simp; omega) _
    rw [show (W1.alloc (.cells #[.int .i64 0] 3)).heap.size = W1.heap.size + 1 from by simp] at bN
    have hsz : ((W1.alloc (.cells #[.int .i64 0] 3)).alloc (.cells e.cells 57)).heap.size = W1.heap.size + 2 := by simp
    have hlt1 := bE1.lt
    generalize (W1.alloc (.cells #[.int .i64 0] 3)).alloc (.cells e.cells 57) = W0 at *
    refine wpIn_rangeFunc_ownH rfl h1 (gf := 135) (lb := #[.pointer (some ⟨W1.heap.size + 1, 0, none⟩)]) rfl trivial (enters_of Try.func135 (by kernel_rfl) rfl)
      (nodes_stops (n - 1) (W1.heap.size + 1) w.heap.size W1.heap.size (W1.heap.size + 1) (by omega) e W0 (by omega) (by omega) (by omega) bN.cell (hin.below hB0)) Kp.trans (fun W l o o' _ hl hc _ => Kp.put W l o o' hl hc) (Below.refl _ _) (fun _ => rfl)
      (fun pre W => Boxed W W1.heap.size 3 (.int .i64 (pre.length : Int)) ∧ Below w.heap.size w W)
      (fun c pre W => False)
      (OwnFrom.and (Own.from (boxed_own _ _ _) _) (ownFrom_below (Nat.le_refl _) (by omega)))
      (fun c => ownFrom_pure _ _)
      ⟨bC, hB0⟩
      (fun x a' W => a' = { tmps := #[.agg e.cells, .pointer (some ⟨w.heap.size, 0, none⟩), .int .i64 0, .int .i64 0, .int .i64 0, .pointer (some ⟨W1.heap.size, 0, none⟩), .agg e.cells, .int .i64 0, .int .i64 0, .bool false, undef, .agg e.cells, .func (.func 135) #[] #[.pointer (some ⟨W1.heap.size + 1, 0, none⟩)], .int .i64 x.1, x.2.val, undef, undef, undef], defers := [] })
      (fun x a' _ X Y row hs hg hr => hs)
      ?assign ?body ?done ?stop
    case assign =>
      rintro l pre x W K hI hK
      gi_wp2
      exact hK _ _ ((KeepsOthers.refl _).from _) (Kp.refl _ _ _) hI (by simp)
    case body =>
      rintro l pre x a' W hl ⟨r, hr⟩ ⟨bC1, hB1⟩ rfl hlt
      have cC := bC1.cell
      have fC := bC1.frozen
      have hwr : wrap64 ((pre.length : Int) + 1) = (pre.length : Int) + 1 := by have := check_len e h0; unfold wrap64; omega
      gi_wp2
      refine ⟨(KeepsOthers.setCell _ _ _).from _, Kp.setCell W _ _ (by omega) (by omega), ?_, hB1.setCell (p := ⟨W1.heap.size, 0, none⟩) (by simp; omega) _⟩
      rw [List.length_append]
      exact bC1.set _
    case done =>
      rintro D zs W hD rfl ⟨bC1, hB1⟩ hK
      have cC := bC1.cell
      gi_wp2
      refine ⟨by simp, .inl ⟨_, _, rfl, run_takeDeferred hK, ?_⟩⟩
      have hv : sizeR e = ((e.nodes 1).length : Int) := by unfold sizeR; rw [if_pos h0]
      refine ⟨.tuple #[.int .i64 ((e.nodes 1).length : Int), .int .i64 0], ?_, by rw [← HS.out, hv], hB1.trans (belowK_b (w := w) (Nat.le_refl _) W D _ _ (by omega) hK rfl rfl)⟩
      simp [results, Try.f87, go_sem]
    case stop =>
      rintro D c pre W hD hpre h hK
      exact h.elim
  · have g : (check e != 0) = true := by simpa using h0
    gi_wp2_with ((try refine ⟨trivial, ?_⟩); gi_at_call 86; refine hcheck.mono ?_; rintro r W1 ⟨rfl, hb1⟩; simp only [← cells_eq] at hb1)
    have hv : R = 0 := by rw [← HS.out]; unfold sizeR; rw [if_neg h0]
    subst hv
    refine ⟨.tuple #[.int .i64 0, .int .i64 (check e)], ?_, rfl, (HE.out hb1).2⟩
    simp [results, Try.f87, go_sem]
theorem size_any (e : Ex) (w : World) (hin : e.In w.heap.size w) :
    Calls Try.prog 87 #[e.val] w fun r W' => r = .returned (.tuple #[.int .i64 (sizeR e), .int .i64 (check e)]) ∧ Below w.heap.size w W' := callsIn_wide.1 (size_in 4 (Nat.le_refl _) e w hin)
theorem check_any (e : Ex) (w : World) (hin : e.In w.heap.size w) :
    Calls Try.prog 86 #[e.val] w fun r W' => r = .returned (.int .i64 (check e)) ∧ Below w.heap.size w W' := callsIn_wide.1 (check_in 3 (Nat.le_refl _) e w hin)
end Go.Proofs.Ytokdaapmejccbaa
namespace Go.Proofs.Ytokdaapmejccbaa
open Go.RowKit
open Ex.In (InL)
open Ex.size (sizeL)
open Ex.nodes (nodesL)
theorem nodes_len (d : Int) : ∀ (e : Ex), (e.nodes d).length = e.size
  | .mk k S t a c kids => by rw [Ex.nodes, Ex.size, List.length_cons, nodesL_len (wrap64 (d + 1)) kids]; omega
  where
  nodesL_len (d : Int) : ∀ (l : List Ex), (nodesL d l).length = sizeL l
    | [] => rfl
    | e :: r => by rw [nodesL, sizeL, List.length_append, nodes_len d e, nodesL_len d r]
theorem nodesL_len (d : Int) : ∀ (l : List Ex), (nodesL d l).length = sizeL l := nodes_len.nodesL_len d
theorem wrap_small (d : Int) (h0 : 0 ≤ d) (h1 : d < 4611686018427387904) : wrap64 (d + 1) = d + 1 := by unfold wrap64; omega
theorem nodes_shift : ∀ (e : Ex) (d : Int), 0 ≤ d → d + e.size < 4611686018427387904 → e.nodes (d + 1) = (e.nodes d).map fun x => (x.1 + 1, x.2)
  | .mk k S t a c kids, d, h0, h1 => by
    rw [Ex.size] at h1
    rw [Ex.nodes, Ex.nodes, List.map_cons, wrap_small d h0 (by omega), wrap_small (d + 1) (by omega) (by omega), nodesL_shift kids (d + 1) (by omega) (by omega)]
  where
  nodesL_shift : ∀ (l : List Ex) (d : Int), 0 ≤ d → d + sizeL l < 4611686018427387904 → nodesL (d + 1) l = (nodesL d l).map fun x => (x.1 + 1, x.2)
    | [], _, _, _ => rfl
    | e :: r, d, h0, h1 => by
      rw [sizeL] at h1
      rw [nodesL, nodesL, List.map_append, nodes_shift e d h0 (by omega), nodesL_shift r d h0 (by omega)]
theorem nodesL_shift : ∀ (l : List Ex) (d : Int), 0 ≤ d → d + sizeL l < 4611686018427387904 → nodesL (d + 1) l = (nodesL d l).map fun x => (x.1 + 1, x.2) := nodes_shift.nodesL_shift (.mk 0 0#256 ByteArray.empty none 0 []) 0
theorem chk_zero : ∀ (l : List (Int × Ex)) (n : Nat), n ≤ 60 → (chk n l = 0 ↔ n + l.length ≤ 60 ∧ ∀ x ∈ l, x.1 ≤ 12 ∧ formOk x.2 = true)
  | [], n, h => by simp [chk, h]
  | (d, x) :: r, n, h => by
    rw [chk]
    by_cases h1 : 60 < n + 1
    · rw [if_pos h1]; simp; omega
    rw [if_neg h1]
    by_cases h2 : 12 < d
    · rw [if_pos h2]
      simp
      intro _ h3
      omega
    rw [if_neg h2]
    by_cases h3 : formOk x = true
    · rw [if_pos h3, chk_zero r (n + 1) (by omega)]
      simp only [List.length_cons, List.mem_cons, forall_eq_or_imp]
      constructor
      · rintro ⟨a, b⟩
        exact ⟨by omega, ⟨by omega, h3⟩, b⟩
      · rintro ⟨a, _, b⟩
        exact ⟨by omega, b⟩
    · rw [if_neg h3]
      simp [h3]
theorem check_zero (e : Ex) : check e = 0 ↔ e.size ≤ 60 ∧ ∀ x ∈ e.nodes 1, x.1 ≤ 12 ∧ formOk x.2 = true := by
  unfold check
  rw [chk_zero _ 0 (by omega), nodes_len]
  simp
theorem nodesL_mem (d : Int) (l : List Ex) (x : Ex) (hx : x ∈ l) : ∀ y ∈ x.nodes d, y ∈ nodesL d l := by
  intro y hy
  induction l with
  | nil => cases hx
  | cons e r ih =>
    rw [nodesL, List.mem_append]
    rcases List.mem_cons.1 hx with rfl | h
    · exact .inl hy
    · exact .inr (ih h)
/-- What stands within a right expression is right. -/
theorem check_kid (e x : Ex) (hx : x ∈ e.kids) (h : check e = 0) : check x = 0 := by
  rw [check_zero] at h ⊢
  have hs := size_kid hx
  refine ⟨by omega, fun y hy => ?_⟩
  have h2 : (y.1 + 1, y.2) ∈ e.nodes 1 := by
    rw [nodes_eq, wrap_small 1 (by omega) (by omega)]
    refine List.mem_cons_of_mem _ (nodesL_mem _ _ x hx _ ?_)
    rw [nodes_shift x 1 (by omega) (by omega)]
    exact List.mem_map.2 ⟨y, hy, rfl⟩
  have := h.2 _ h2
  exact ⟨by have := this.1; simp at this; omega, this.2⟩
theorem sizeR_ok (e : Ex) (h : check e = 0) : sizeR e = (e.size : Int) := by unfold sizeR; rw [if_pos h, nodes_len]
theorem sizeR_bad (e : Ex) (h : ¬ check e = 0) : sizeR e = 0 := by unfold sizeR; rw [if_neg h]
theorem sizeL_append : ∀ (l r : List Ex), sizeL (l ++ r) = sizeL l + sizeL r
  | [], r => by simp [sizeL]
  | e :: l, r => by rw [List.cons_append, sizeL, sizeL, sizeL_append l r]; omega
theorem sizeL_take (l : List Ex) (i : Nat) (x : Ex) (h : l[i]? = some x) : sizeL (l.take (i + 1)) = sizeL (l.take i) + x.size := by
  rw [List.take_add_one, h, Option.toList_some, sizeL_append, sizeL, sizeL]; omega
theorem size_eq (e : Ex) : e.size = 1 + sizeL e.kids := by cases e with | mk k S t a c kids => rw [Ex.size]; rfl
theorem wd_zero (k : Nat) : wd 0#256 k = 0 := by unfold wd; simp
/-- The expression that the law itself makes: not nothing. -/
def notNo (b : Nat) : Ex := .mk 11 0#256 ByteArray.empty (some ⟨b, 0, none⟩) 1 [.mk 1 0#256 ByteArray.empty none 0 []]
theorem noS_zero : noS 0#256 = true := by unfold noS; simp [wd_zero]
theorem notNo_check (b : Nat) : check (notNo b) = 0 := by
  unfold check notNo
  simp [Ex.nodes, nodesL, chk, formOk, textOk, setOk, kidsOk, Ex.k, Ex.t, Ex.S, Ex.kids, noS_zero, wrap64]
theorem notNo_size (b : Nat) : sizeR (notNo b) = 2 := by
  rw [sizeR_ok _ (notNo_check b)]
  simp [notNo, Ex.size, sizeL]
theorem notNo_in (w : World) : (notNo w.heap.size).In (w.heap.size + 1) (w.alloc (.cells #[.int .i64 1, .int .u64 0, .int .u64 0, .int .u64 0, .int .u64 0, .string ByteArray.empty, .slice none 0 0] 57)) := by
  unfold notNo
  rw [Ex.In]
  refine ⟨⟨by simp, by simp⟩, ?_⟩
  rw [InL]
  refine ⟨⟨w.heap.size, 0, rfl, by omega, fun j hj => ?_⟩, ?_, by rw [InL]; trivial⟩
  · unfold World.cell?
    rw [World.alloc_heap_new]
    simp [Ex.cells, Ex.k, Ex.S, Ex.t, Ex.a, Ex.c, Ex.kids, wd_zero]
  · rw [Ex.In, InL]
    simp
end Go.Proofs.Ytokdaapmejccbaa
namespace Go.Proofs.Ytokdaapmejccbaa
open Go.RowKit
open Ex.nodes (nodesL)
/-- The nodes, none beneath those that are too deep or have too many kids. -/
def Ex.pn (d : Int) : Ex → List (Int × Ex)
  | .mk k S t a c kids => (d, .mk k S t a c kids) :: (if d ≤ 12 ∧ kids.length ≤ 8 then pnL (wrap64 (d + 1)) kids else [])
  where
  pnL (d : Int) : List Ex → List (Int × Ex)
    | [] => []
    | e :: r => Ex.pn d e ++ pnL d r
open Ex.pn (pnL)
theorem pn_eq (d : Int) (e : Ex) : e.pn d = (d, e) :: (if d ≤ 12 ∧ e.kids.length ≤ 8 then pnL (wrap64 (d + 1)) e.kids else []) := by
  cases e with
  | mk k S t a c kids => rw [Ex.pn]; rfl
theorem formOk_many (e : Ex) (h : 8 < e.kids.length) : formOk e = false := by
  unfold formOk kidsOk
  rw [show (if e.k = 1 ∨ e.k = 2 ∨ e.k = 3 ∨ e.k = 4 then decide (e.kids.length = 0) else if e.k = 5 ∨ e.k = 6 then decide (2 ≤ e.kids.length) && decide (e.kids.length ≤ 8) else if 7 ≤ e.k ∧ e.k ≤ 11 then decide (e.kids.length = 1) else false) = false from by
    split
    · exact decide_eq_false (by omega)
    split
    · rw [decide_eq_false (by omega : ¬ e.kids.length ≤ 8), Bool.and_false]
    split
    · exact decide_eq_false (by omega)
    · rfl]
  simp
theorem chk_pn : ∀ (e : Ex) (d : Int) (n : Nat) (r r' : List (Int × Ex)), (∀ m, chk m r = chk m r') → chk n (e.pn d ++ r) = chk n (e.nodes d ++ r')
  | .mk k S t a c kids, d, n, r, r', h => by
    rw [Ex.pn, Ex.nodes, List.cons_append, List.cons_append, chk, chk]
    by_cases h1 : 60 < n + 1
    · rw [if_pos h1, if_pos h1]
    rw [if_neg h1, if_neg h1]
    by_cases h2 : 12 < d
    · rw [if_pos h2, if_pos h2]
    rw [if_neg h2, if_neg h2]
    by_cases h3 : formOk (.mk k S t a c kids) = true
    · rw [if_pos h3, if_pos h3]
      have h4 : kids.length ≤ 8 := by
        rcases Nat.lt_or_ge 8 kids.length with h5 | h5
        · rw [formOk_many (.mk k S t a c kids) h5] at h3; cases h3
        · exact h5
      rw [if_pos ⟨by omega, h4⟩]
      exact chk_pnL kids _ _ r r' h
    · rw [if_neg h3, if_neg h3]
  where
  chk_pnL : ∀ (l : List Ex) (d : Int) (n : Nat) (r r' : List (Int × Ex)), (∀ m, chk m r = chk m r') → chk n (pnL d l ++ r) = chk n (nodesL d l ++ r')
    | [], d, n, r, r', h => by rw [pnL, nodesL]; exact h n
    | e :: l, d, n, r, r', h => by
      rw [pnL, nodesL, List.append_assoc, List.append_assoc]
      exact chk_pn e d n _ _ fun m => chk_pnL l d m r r' h
theorem chk_pnL : ∀ (l : List Ex) (d : Int) (n : Nat) (r r' : List (Int × Ex)), (∀ m, chk m r = chk m r') → chk n (pnL d l ++ r) = chk n (nodesL d l ++ r') := chk_pn.chk_pnL
theorem chk_take : ∀ (l : List (Int × Ex)) (n : Nat), n ≤ 60 → chk n (l.take (61 - n)) = chk n l
  | [], n, _ => by simp
  | (d, x) :: r, n, h => by
    rw [show 61 - n = (60 - n) + 1 from by omega, List.take_succ_cons, chk, chk]
    by_cases h1 : 60 < n + 1
    · rw [if_pos h1, if_pos h1]
    rw [if_neg h1, if_neg h1]
    by_cases h2 : 12 < d
    · rw [if_pos h2, if_pos h2]
    rw [if_neg h2, if_neg h2]
    by_cases h3 : formOk x = true
    · rw [if_pos h3, if_pos h3]
      have := chk_take r (n + 1) (by omega)
      rwa [show 61 - (n + 1) = 60 - n from by omega] at this
    · rw [if_neg h3, if_neg h3]
/-- The nodes that the reference lists. -/
def rnodes (e : Ex) : List (Int × Ex) := (e.pn 1).take 61
theorem chk_rnodes (e : Ex) : chk 0 (rnodes e) = check e := by
  unfold rnodes check
  have h1 := chk_take (e.pn 1) 0 (by omega)
  rw [Nat.sub_zero] at h1
  rw [h1]
  have h2 := chk_pn e 1 0 [] [] fun _ => rfl
  rwa [List.append_nil, List.append_nil] at h2
theorem pn_ok : ∀ (e : Ex) (d : Int), (∀ x ∈ e.nodes d, x.1 ≤ 12 ∧ formOk x.2 = true) → e.pn d = e.nodes d
  | .mk k S t a c kids, d, h => by
    rw [Ex.nodes] at h
    rw [Ex.pn, Ex.nodes]
    have h0 := h _ List.mem_cons_self
    have h4 : kids.length ≤ 8 := by
      rcases Nat.lt_or_ge 8 kids.length with h5 | h5
      · have h6 := h0.2; rw [formOk_many (.mk k S t a c kids) h5] at h6; cases h6
      · exact h5
    rw [if_pos ⟨h0.1, h4⟩, pnL_ok kids _ fun x hx => h x (List.mem_cons_of_mem _ hx)]
  where
  pnL_ok : ∀ (l : List Ex) (d : Int), (∀ x ∈ nodesL d l, x.1 ≤ 12 ∧ formOk x.2 = true) → pnL d l = nodesL d l
    | [], d, h => by rw [pnL, nodesL]
    | e :: r, d, h => by
      rw [nodesL] at h
      rw [pnL, nodesL, pn_ok e d fun x hx => h x (List.mem_append_left _ hx), pnL_ok r d fun x hx => h x (List.mem_append_right _ hx)]
theorem pnL_ok : ∀ (l : List Ex) (d : Int), (∀ x ∈ nodesL d l, x.1 ≤ 12 ∧ formOk x.2 = true) → pnL d l = nodesL d l := pn_ok.pnL_ok
theorem rnodes_ok (e : Ex) (h : check e = 0) : rnodes e = e.nodes 1 := by
  have hl := check_len e h
  unfold rnodes
  rw [pn_ok e 1 ((check_zero e).1 h).2, List.take_of_length_le (by omega)]
/-- What is still to come of those that wait. -/
def pflat : List (Int × Ex) → List (Int × Ex)
  | [] => []
  | x :: r => x.2.pn x.1 ++ pflat r
theorem pflat_append : ∀ (l r : List (Int × Ex)), pflat (l ++ r) = pflat l ++ pflat r
  | [], r => rfl
  | x :: l, r => by rw [List.cons_append, pflat, pflat, pflat_append l r, List.append_assoc]
theorem pflat_kids (d : Int) : ∀ (l : List Ex), pflat (l.map fun x => (d, x)) = pnL d l
  | [] => rfl
  | e :: r => by rw [List.map_cons, pflat, pnL, pflat_kids d r]
/-- What comes next behind a node. -/
def nexts (x : Int × Ex) : List (Int × Ex) := if x.1 ≤ 12 ∧ x.2.kids.length ≤ 8 then x.2.kids.map (fun k => (wrap64 (x.1 + 1), k)) else []
theorem pflat_step (x : Int × Ex) (r : List (Int × Ex)) : pflat (x :: r) = x :: pflat (nexts x ++ r) := by
  rw [pflat, pn_eq, pflat_append, List.cons_append]
  unfold nexts
  by_cases h : x.1 ≤ 12 ∧ x.2.kids.length ≤ 8
  · rw [if_pos h, if_pos h, pflat_kids]
  · rw [if_neg h, if_neg h]; rfl
theorem nexts_len (x : Int × Ex) : (nexts x).length ≤ 8 := by
  unfold nexts
  split
  · rename_i h; simpa using h.2
  · simp
/-- A node as cells. -/
def ncell (x : Int × Ex) : List Value := x.2.cells.toList ++ [.int .i64 x.1]
def ncells (l : List (Int × Ex)) : List Value := l.flatMap ncell
theorem ncell_len (x : Int × Ex) : (ncell x).length = 8 := by simp [ncell, Ex.cells]
theorem ncells_app (l r : List (Int × Ex)) : ncells (l ++ r) = ncells l ++ ncells r := by simp [ncells]
theorem ncells_len : ∀ (l : List (Int × Ex)), (ncells l).length = l.length * 8
  | [] => rfl
  | x :: r => by
    rw [show ncells (x :: r) = ncell x ++ ncells r from rfl, List.length_append, ncell_len, ncells_len r, List.length_cons]; omega
theorem ncells_at : ∀ (l : List (Int × Ex)) (i j : Nat) (x : Int × Ex), l[i]? = some x → j < 8 → (ncells l)[i * 8 + j]? = (ncell x)[j]?
  | [], i, j, x, h, _ => by simp at h
  | y :: r, 0, j, x, h, hj => by
    simp at h; subst h
    rw [show ncells (y :: r) = ncell y ++ ncells r from rfl, Nat.zero_mul, Nat.zero_add, List.getElem?_append_left (by rw [ncell_len]; exact hj)]
  | y :: r, i + 1, j, x, h, hj => by
    rw [show ncells (y :: r) = ncell y ++ ncells r from rfl, List.getElem?_append_right (by rw [ncell_len]; omega), ncell_len, show (i + 1) * 8 + j - 8 = i * 8 + j from by omega]
    exact ncells_at r i j x (by simpa using h) hj
theorem ncell_one (l : List (Int × Ex)) : ∀ u ∈ ncells l, u.oneCell' = true := by
  intro u hu
  obtain ⟨x, _, hx⟩ := List.mem_flatMap.1 hu
  simp [ncell, Ex.cells] at hx
  rcases hx with rfl | rfl | rfl | rfl | rfl | rfl | rfl | rfl <;> rfl
theorem Try.info80 : (Try.prog.info? 80).map (fun i => (i.zero, i.size, i.bytes)) = some (some (.agg #[.int .i64 0, .int .u64 0, .int .u64 0, .int .u64 0, .int .u64 0, .string ByteArray.empty, .slice none 0 0, .int .i64 0]), 8, 88) := by kernel_rfl
/-- A slice of nodes of the call's own. -/
def Nd (w : World) (base : Nat) (v : Value) (l : List (Int × Ex)) : Prop := w.ownsRow base 80 8 v l.length (ncells l)
end Go.Proofs.Ytokdaapmejccbaa
