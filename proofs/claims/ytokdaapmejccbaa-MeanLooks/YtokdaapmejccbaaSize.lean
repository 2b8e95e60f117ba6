import Derived.Test.YtokdaapmejccbaaCheck
namespace Go.Proofs.Ytokdaapmejccbaa
open Go.RowKit Go.Shelf
open Ex.In (InL)
attribute [local go_sem] Oper.semAt_some
theorem chk_len : ∀ (l : List (Int × Ex)) (n : Nat), n ≤ 60 → chk n l = 0 → n + l.length ≤ 60
  | [], n, h, _ => by simpa using h
  | (d, x) :: r, n, h, hc => by
    rw [chk] at hc
    split at hc
    · cases hc
    split at hc
    · cases hc
    split at hc
    · have := chk_len r (n + 1) (by omega) hc
      simp; omega
    · cases hc
theorem check_len (e : Ex) (h : check e = 0) : (e.nodes 1).length ≤ 60 := by
  have := chk_len (e.nodes 1) 0 (by omega) h
  omega
theorem Ex.In.mono {n m : Nat} {A : World} (h : n ≤ m) : ∀ {e : Ex}, Ex.In n A e → Ex.In m A e
  | .mk _ _ _ _ _ kids, hi => by
    rw [Ex.In] at hi ⊢
    exact ⟨hi.1, go h kids hi.2⟩
  where
  go {n m : Nat} {A : World} (h : n ≤ m) {a : Option Addr} : ∀ {i : Nat} (l : List Ex), InL n A a i l → InL m A a i l
    | _, [], _ => by rw [InL]; trivial
    | i, e :: r, hi => by
      rw [InL] at hi ⊢
      obtain ⟨⟨b, o, ha, hb, hc⟩, h1, h2⟩ := hi
      exact ⟨⟨b, o, ha, Nat.lt_of_lt_of_le hb h, hc⟩, Ex.In.mono h h1, go h r h2⟩
theorem InL.mono {n m : Nat} {A : World} (h : n ≤ m) {a : Option Addr} : ∀ {i : Nat} (l : List Ex), InL n A a i l → InL m A a i l := Ex.In.mono.go h
/-- Grown by what is new alone. -/
theorem Ex.In.grow {A B : World} {e : Ex} (h : e.In A.heap.size A) (hb : Below A.heap.size A B) : e.In B.heap.size B := (h.below hb).mono hb.size
def sizeR (e : Ex) : Int := if check e = 0 then ((e.nodes 1).length : Int) else 0
set_option maxRecDepth 100000 in
set_option maxHeartbeats 2000000 in
theorem size_in (n : Nat) (hn : 4 ≤ n) (e : Ex) (w : World) (hin : e.In w.heap.size w) :
    CallsIn Fence.wide n Try.prog 87 #[e.val] w fun r W' => r = .returned (.tuple #[.int .i64 (sizeR e), .int .i64 (check e)]) ∧ Below w.heap.size w W' := by
  have h1 : 1 ≤ n := by omega
  have hdd : ∀ k : Nat, (Fence.wide.depth.isSome = true → 1 ≤ k) := fun k h => by cases h
  have hnodes := fun w => nodes_in (n - 1) e w
  have hA := (Below.refl w.heap.size w).alloc (Nat.le_refl _) (.cells e.cells 57)
  have hcheck := check_in (n - 1) (by omega) e (w.alloc (.cells e.cells 57)) (hin.grow hA)
  have bE := BoxN.new w 57 e.cells
  refine callsIn_of_wp_marks Try.func87 rfl trivial ?_ rfl
  rw [val_eq] at hnodes hcheck ⊢
  simp only [Try.ntmps87, List.size_toArray, List.length_cons, List.length_nil, Nat.reduceAdd, Nat.reduceSub, Array.replicate_succ, Array.replicate_zero, List.push_toArray, List.append_toArray, List.nil_append, List.cons_append]
  simp only [cells_eq] at hcheck
  obtain ⟨R, hR⟩ : ∃ R, sizeR e = R := ⟨_, rfl⟩
  have HS : Hid (sizeR e = R) := hR
  rw [hR]
  clear hR
  have hE1 : ∀ {W1 : World}, Below (w.alloc (.cells e.cells 57)).heap.size (w.alloc (.cells e.cells 57)) W1 → BoxN W1 w.heap.size 57 e.cells ∧ Below w.heap.size w W1 := fun hb => ⟨bE.below hb (by simp), hA.trans (hb.mono (by simp))⟩
  have HE : Hid _ := @hE1
  clear hE1
  by_cases h0 : check e = 0
  · rw [h0] at hcheck ⊢
    gi_wp2_with (first
      | ((try refine ⟨trivial, ?_⟩); gi_at_call 86; refine hcheck.mono ?_; rintro r W1 ⟨rfl, hb1⟩; simp only [← cells_eq] at hb1; have bE1 := HE.out hb1; have cE1 := bE1.1.cell; have cE2 := (bE1.1.alloc (.cells #[.int .i64 0] 3)).cell; rw [cells_eq] at cE1 cE2; clear hb1 hcheck)
      | ((try refine ⟨trivial, ?_⟩); gi_at_call 115; refine (hnodes _).mono ?_; rintro r w' ⟨rfl, rfl⟩))
    simp only [← cells_eq]
    clear hnodes cE1 cE2 HE bE hA
    obtain ⟨bE1, hB1⟩ := bE1
    have bC := (Boxed.new W1 3 (.int .i64 0)).alloc (.cells e.cells 57)
    have bN := BoxN.new (W1.alloc (.cells #[.int .i64 0] 3)) 57 e.cells
    have hB0 : Below w.heap.size w ((W1.alloc (.cells #[.int .i64 0] 3)).alloc (.cells e.cells 57)) := (hB1.alloc hB1.size _).alloc (by have := hB1.size; simp; omega) _
    rw [show (W1.alloc (.cells #[.int .i64 0] 3)).heap.size = W1.heap.size + 1 from by simp] at bN
    have hsz : ((W1.alloc (.cells #[.int .i64 0] 3)).alloc (.cells e.cells 57)).heap.size = W1.heap.size + 2 := by simp
    have hlt1 := bE1.lt
    generalize (W1.alloc (.cells #[.int .i64 0] 3)).alloc (.cells e.cells 57) = W0 at *
    refine wpIn_rangeFunc_ownH rfl h1 (gf := 135) (lb := #[.pointer (some ⟨W1.heap.size + 1, 0, none⟩)]) rfl trivial (enters_of Try.func135 (by kernel_rfl) rfl)
      (nodes_stops (n - 1) (W1.heap.size + 1) w.heap.size W1.heap.size (W1.heap.size + 1) (by omega) e W0 (by omega) (by omega) (by omega) bN.cell (hin.below hB0)) Kp.trans (fun W l o o' _ hl hc _ => Kp.put W l o o' hl hc) (Below.refl _ _) (fun _ => rfl)
      (fun pre W => Boxed W W1.heap.size 3 (.int .i64 (pre.length : Int)) ∧ Below w.heap.size w W)
      (fun c pre W => False)
      (OwnFrom.and (Own.from (boxed_own _ _ _) _) (ownFrom_below (Nat.le_refl _) (by omega)))
      (fun c => ownFrom_pure _ _)
      ⟨bC, hB0⟩
      (fun x a' W => a' = { tmps := #[.agg e.cells, .pointer (some ⟨w.heap.size, 0, none⟩), .int .i64 0, .int .i64 0, .int .i64 0, .pointer (some ⟨W1.heap.size, 0, none⟩), .agg e.cells, .int .i64 0, .int .i64 0, .bool false, undef, .agg e.cells, .func (.func 135) #[] #[.pointer (some ⟨W1.heap.size + 1, 0, none⟩)], .int .i64 x.1, x.2.val, undef, undef, undef], defers := [] })
      (fun x a' _ X Y row hs hg hr => hs)
      ?assign ?body ?done ?stop
    case assign =>
      rintro l pre x W K hI hK
      gi_wp2
      exact hK _ _ ((KeepsOthers.refl _).from _) (Kp.refl _ _ _) hI (by simp)
    case body =>
      rintro l pre x a' W hl ⟨r, hr⟩ ⟨bC1, hB1⟩ rfl hlt
      have cC := bC1.cell
      have fC := bC1.frozen
      have hwr : wrap64 ((pre.length : Int) + 1) = (pre.length : Int) + 1 := by have := check_len e h0; unfold wrap64; omega
      gi_wp2
      refine ⟨(KeepsOthers.setCell _ _ _).from _, Kp.setCell W _ _ (by omega) (by omega), ?_, hB1.setCell (p := ⟨W1.heap.size, 0, none⟩) (by simp; omega) _⟩
      rw [List.length_append]
      exact bC1.set _
    case done =>
      rintro D zs W hD rfl ⟨bC1, hB1⟩ hK
      have cC := bC1.cell
      gi_wp2
      refine ⟨by simp, .inl ⟨_, _, rfl, run_takeDeferred hK, ?_⟩⟩
      have hv : sizeR e = ((e.nodes 1).length : Int) := by unfold sizeR; rw [if_pos h0]
      refine ⟨.tuple #[.int .i64 ((e.nodes 1).length : Int), .int .i64 0], ?_, by rw [← HS.out, hv], hB1.trans (belowK_b (w := w) (Nat.le_refl _) W D _ _ (by omega) hK rfl rfl)⟩
      simp [results, Try.f87, go_sem]
    case stop =>
      rintro D c pre W hD hpre h hK
      exact h.elim
  · have g : (check e != 0) = true := by simpa using h0
    gi_wp2_with ((try refine ⟨trivial, ?_⟩); gi_at_call 86; refine hcheck.mono ?_; rintro r W1 ⟨rfl, hb1⟩; simp only [← cells_eq] at hb1)
    have hv : R = 0 := by rw [← HS.out]; unfold sizeR; rw [if_neg h0]
    subst hv
    refine ⟨.tuple #[.int .i64 0, .int .i64 (check e)], ?_, rfl, (HE.out hb1).2⟩
    simp [results, Try.f87, go_sem]
theorem size_any (e : Ex) (w : World) (hin : e.In w.heap.size w) :
    Calls Try.prog 87 #[e.val] w fun r W' => r = .returned (.tuple #[.int .i64 (sizeR e), .int .i64 (check e)]) ∧ Below w.heap.size w W' := callsIn_wide.1 (size_in 4 (Nat.le_refl _) e w hin)
theorem check_any (e : Ex) (w : World) (hin : e.In w.heap.size w) :
    Calls Try.prog 86 #[e.val] w fun r W' => r = .returned (.int .i64 (check e)) ∧ Below w.heap.size w W' := callsIn_wide.1 (check_in 3 (Nat.le_refl _) e w hin)
end Go.Proofs.Ytokdaapmejccbaa
