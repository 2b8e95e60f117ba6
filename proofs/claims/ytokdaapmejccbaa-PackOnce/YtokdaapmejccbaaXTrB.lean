import Derived.Test.YtokdaapmejccbaaXCheck
import Derived.Test.YtokdaapmejccbaaXQHas
import Derived.Test.YtokdaapmejccbaaXQLast
import Derived.Test.YtokdaapmejccbaaXGoT
import Derived.Test.YtokdaapmejccbaaXShelfC
import Derived.WalkKit
import Derived.Below
import Derived.Laws.Tables
import Derived.Laws.Rows
import Derived.Deep.QuietTactic
import Derived.BigQuiet
import Derived.BigRegion
namespace Go.Proofs.Ytokdaapmejccbaa
open Go.RowKit
set_option linter.unusedVariables false
theorem BoxN.frozen {W : World} {B : Nat} {t : TypeId} {cs : Array Value} (h : BoxN W B t cs) (j : Nat) : W.frozen? ⟨B, j, none⟩ = false := by simp [World.frozen?, show W.heap[B]? = _ from h]
theorem grown_row {w : World} {g : Nat} {t : TypeId} {old cs : Array Value} (h : BoxN w g t old) : BoxN (w.setRow g cs) g t cs ∧ w.grownBy (w.setRow g cs) (some g) :=
  ⟨setRow_heap w g old cs t (0, 0) h, ⟨rfl, rfl, rfl, by simp, fun k _ hk => setRow_other w g k cs (fun e => hk (by rw [e]))⟩⟩
/-- A whole row stored into a box. -/
theorem wpList_store_box {ops : Array Oper} {rest : List Oper} {o : Oper} {a : Act} {w : World} {Q : Exit → Act → World → Prop} (hgd : o.guard = none) (ty : TypeId) (x y : Operand) (ho : o.op = .store ty x y)
    (g : Nat) (cs : Array Value) (hx : a.eval x = .pointer (some ⟨g, 0, none⟩)) (hy : a.eval y = .agg cs) (old : Array Value) (hg : BoxN w g ty old) (hi : (Try.prog.info? ty).map (·.size) = some cs.size)
    (hold : old.size = cs.size) (h1 : cs.all (·.oneCell') = true)
    (h : ∀ w', BoxN w' g ty cs → w.grownBy w' (some g) → wpList Try.prog ops Q rest (a.put o.dst undef) w') : wpList Try.prog ops Q (o :: rest) a w :=
  wpList_store_row hgd ty x y ho g cs hx hy ty old hg hi hold h1 (h _ (grown_row hg).1 (grown_row hg).2)
theorem wp_region_all {P : Program} {id : Nat} {Q : Exit → Act → World → Prop} {a : Act} {w : World} (C : World → Prop) (l : List Oper) (hm : P.follows .mixedOrders = true) (hB : Region.lexB .any l.toArray = true) (hC : C { w with drawn := w.drawn + 1 })
    (h : wpQuiet P l.toArray C (fun a' => ∀ w', C w' → Q .normal a' w') l a) : (Code.region id l.toArray true).wp P Q a w :=
  wp_region_quiet (C := C) hm hB hC (by simpa using h)
theorem Try.info29 : (Try.prog.info? 29).map (·.size) = some 2 := by kernel_rfl
/-- In the middle of a call that only reads, with the box of its result. -/
structure Bq (w0 : World) (B : Nat) (cs : Array Value) (W : World) : Prop where
  bel : Below w0.heap.size w0 W
  box : BoxN W B 29 cs
  ge : w0.heap.size ≤ B
theorem Bq.step {w0 : World} {B : Nat} {cs : Array Value} {W W' : World} (h : Bq w0 B cs W) (hb : Below W.heap.size W W') : Bq w0 B cs W' := ⟨h.bel.trans (hb.mono h.bel.size), h.box.below hb h.box.lt, h.ge⟩
theorem Bq.drewN {w0 : World} {B : Nat} {cs : Array Value} {W : World} (h : Bq w0 B cs W) (n : Nat) : Bq w0 B cs (W.drewN n) := ⟨below_drewN h.bel n, h.box, h.ge⟩
theorem Bq.alloc {w0 : World} {B : Nat} {cs : Array Value} {W : World} (h : Bq w0 B cs W) (o : Obj) : Bq w0 B cs (W.alloc o) := h.step ((Below.refl _ _).alloc (Nat.le_refl _) o)
theorem Bq.fin {w0 : World} {B : Nat} {cs cs' : Array Value} {W W' : World} (h : Bq w0 B cs W) (hb : BoxN W' B 29 cs') (hg : W.grownBy W' (some B)) : Bq w0 B cs' W' := ⟨h.bel.grown hg h.bel.size (fun k hk => by cases hk; exact h.ge), hb, h.ge⟩
theorem Bq.new {w0 W : World} (h : Below w0.heap.size w0 W) : Bq w0 W.heap.size #[.bool false, .int .i64 0] (W.alloc (.cells #[.bool false, .int .i64 0] 29)) := ⟨h.alloc h.size _, BoxN.new W 29 _, h.size⟩
theorem took_any (n : Int) (w : World) : Calls Try.prog 128 #[.int .i64 n] w fun e w' => e = .returned (.agg #[.bool true, .int .i64 n]) ∧ Below w.heap.size w w' := by
  have hA := (Below.refl w.heap.size w).alloc (Nat.le_refl _) (.cells #[.bool true, .int .i64 n] 29)
  go_enter Try.func128, Try.ntmps128
  go_wp2_with fail
  exact bodyPost_ret (v := .agg #[.bool true, .int .i64 n]) (by simp [results, Try.results128, go_sem]) rfl ⟨rfl, hA⟩
theorem failed_any (w : World) : Calls Try.prog 146 #[] w fun e w' => e = .returned (.agg #[.bool false, .int .i64 0]) ∧ Below w.heap.size w w' := by
  have hA := (Below.refl w.heap.size w).alloc (Nat.le_refl _) (.cells #[.bool false, .int .i64 0] 29)
  go_enter Try.func146, Try.ntmps146
  go_wp2_with fail
  exact bodyPost_ret (v := .agg #[.bool false, .int .i64 0]) (by simp [results, Try.results146, go_sem]) rfl ⟨rfl, hA⟩
set_option maxRecDepth 20000 in
set_option maxHeartbeats 4000000 in
theorem oneByte_end (S : BitVec 256) (T : ByteArray) (tb tO : Nat) (w : World) (hT : w.cell? ⟨tb, tO, none⟩ = some (.string T)) (hs : T.size ≤ 60) (htb : tb < w.heap.size) :
    Calls Try.prog 129 #[.pointer (some ⟨tb, tO, none⟩), .agg #[.int .u64 (wd S 0), .int .u64 (wd S 1), .int .u64 (wd S 2), .int .u64 (wd S 3)], .int .i64 (T.size : Int)] w fun e w' => e = .returned (.agg #[.bool false, .int .i64 0]) ∧ Below w.heap.size w w' := by
  have hA := (Below.refl w.heap.size w).alloc (Nat.le_refl _) (.cells #[.int .u64 (wd S 0), .int .u64 (wd S 1), .int .u64 (wd S 2), .int .u64 (wd S 3)] 54)
  have HB : Hid _ := Bq.new hA
  rw [World.size_alloc] at HB
  have hT2 := (HB.out.bel.cell (p := ⟨tb, tO, none⟩) htb).trans hT
  have hf := fun W => failed_any W
  have g1 : ((T.size : Int) == (T.size : Int)) = true := beq_self_eq_true _
  clear hA
  go_enter Try.func129, Try.ntmps129
  go_wp2_with fail
  go_quiet (fail)
  go_wp2_with (first
    | (go_at_call 146; refine (hf _).mono ?_; rintro e1 W1 ⟨rfl, hb1⟩; have HB1 : Hid _ := (HB.out.drewN nq).step hb1; clear hb1)
    | (refine wpList_store_box rfl 29 _ _ rfl (w.heap.size + 1) _ rfl rfl _ HB1.out.box Try.info29 rfl (by simp [Value.oneCell']) ?_; intro w5 hx5 hg5; have hc := hx5.cell; have HB5 : Hid _ := HB1.out.fin hx5 hg5))
  exact bodyPost_ret (by simp [results, Try.results129, go_sem, hc]) rfl ⟨rfl, HB5.out.bel⟩
/-- In the middle of oneByte. -/
structure Cb (S : BitVec 256) (T : ByteArray) (tb tO : Nat) (w W : World) : Prop where
  q : Bq w (w.heap.size + 1) #[.bool false, .int .i64 0] W
  s : BoxN W w.heap.size 54 #[.int .u64 (wd S 0), .int .u64 (wd S 1), .int .u64 (wd S 2), .int .u64 (wd S 3)]
  t : W.cell? ⟨tb, tO, none⟩ = some (.string T)
  lt : tb < w.heap.size
theorem Cb.step {S : BitVec 256} {T : ByteArray} {tb tO : Nat} {w W W' : World} (h : Cb S T tb tO w W) (hb : Below W.heap.size W W') : Cb S T tb tO w W' :=
  ⟨h.q.step hb, h.s.below hb h.s.lt, (hb.cell (p := ⟨tb, tO, none⟩) (Nat.lt_of_lt_of_le h.lt h.q.bel.size)).trans h.t, h.lt⟩
theorem getu8 (T : ByteArray) (p : Nat) (h : p < T.size) : T.data.toList[p]? = some T[p] := by
  have h1 : p < T.data.toList.length := h
  rw [List.getElem?_eq_getElem h1]
  rfl
set_option maxRecDepth 20000 in
set_option maxHeartbeats 4000000 in
theorem oneByte_at (S : BitVec 256) (T : ByteArray) (tb tO p : Nat) (w : World) (hT : w.cell? ⟨tb, tO, none⟩ = some (.string T)) (hs : T.size ≤ 60) (htb : tb < w.heap.size) (hp : p < T.size) (c : UInt8) (hc : T[p] = c) :
    Calls Try.prog 129 #[.pointer (some ⟨tb, tO, none⟩), .agg #[.int .u64 (wd S 0), .int .u64 (wd S 1), .int .u64 (wd S 2), .int .u64 (wd S 3)], .int .i64 (p : Int)] w fun e w' => e = .returned (if S.getLsbD c.toNat = true then .agg #[.bool true, .int .i64 1] else .agg #[.bool false, .int .i64 0]) ∧ Below w.heap.size w w' := by
  have hA := (Below.refl w.heap.size w).alloc (Nat.le_refl _) (.cells #[.int .u64 (wd S 0), .int .u64 (wd S 1), .int .u64 (wd S 2), .int .u64 (wd S 3)] 54)
  have hb := Bq.new hA
  rw [World.size_alloc] at hb
  have HB : Hid (Cb S T tb tO w _) := ⟨hb, (BoxN.new w 54 #[.int .u64 (wd S 0), .int .u64 (wd S 1), .int .u64 (wd S 2), .int .u64 (wd S 3)]).alloc _, (hb.bel.cell (p := ⟨tb, tO, none⟩) htb).trans hT, htb⟩
  have hf := fun W => failed_any W
  have ht := fun W => took_any 1 W
  have hh := fun W => has_any S c.toNat W c.toNat_lt
  have g1 : ((p : Int) == (T.size : Int)) = false := by rw [beq_eq_false_iff_ne]; omega
  clear hA hb hT
  unfold inS at hh
  obtain ⟨z, hz⟩ : ∃ z, S.getLsbD c.toNat = z := ⟨_, rfl⟩
  rw [hz] at hh ⊢
  clear hz
  go_enter Try.func129, Try.ntmps129
  go_wp2_with fail
  generalize (w.alloc (.cells #[.int .u64 (wd S 0), .int .u64 (wd S 1), .int .u64 (wd S 2), .int .u64 (wd S 3)] 54)).alloc (.cells #[.bool false, .int .i64 0] 29) = w1 at *
  refine wp_region_all (Cb S T tb tO w) _ (by kernel_rfl) (by kernel_rfl) (HB.out.step (Below.refl _ w1).drew) ?_
  repeat (first
    | go_big_quiet_skip
    | (go_big_quiet_want
       apply Exists.intro
       refine ⟨fun W hW => ?_, ?_⟩
       · have hT2 := hW.t
         have s0 := hW.s.cell 0
         have s1 := hW.s.cell 1
         have s2 := hW.s.cell 2
         have s3 := hW.s.cell 3
         simp only [List.getElem?_toArray, List.getElem?_cons_zero, List.getElem?_cons_succ] at s0 s1 s2 s3
         unfold Oper.quietAt
         go_simp
         first
           | with_reducible exact rfl
           | with_reducible exact ⟨rfl, rfl⟩
           | (go_at_call 38
              refine (hh W).mono ?_
              rintro e W1 ⟨rfl, hb⟩
              exact ⟨rfl, hW.step hb⟩)
       go_big_quiet_on
       simp only [Act.put, List.setIfInBounds_toArray, List.set_cons_zero, List.set_cons_succ]))
  refine wpQuiet_nil ?_
  intro W hW
  have HB0 : Hid _ := hW.q
  cases z
  · go_simp
    go_wp2_with (first
      | (go_at_call 146; refine (hf _).mono ?_; rintro e1 W1 ⟨rfl, hb1⟩; have HB1 : Hid _ := HB0.out.step hb1; clear hb1)
      | (refine wpList_store_box rfl 29 _ _ rfl (w.heap.size + 1) _ rfl rfl _ HB1.out.box Try.info29 rfl (by simp [Value.oneCell']) ?_; intro w5 hx5 hg5; have hc := hx5.cell; have HB5 : Hid _ := HB1.out.fin hx5 hg5))
    exact bodyPost_ret (by simp [results, Try.results129, go_sem, hc]) rfl ⟨rfl, HB5.out.bel⟩
  · go_simp
    go_wp2_with (first
      | (go_at_call 128; refine (ht _).mono ?_; rintro e1 W1 ⟨rfl, hb1⟩; have HB1 : Hid _ := HB0.out.step hb1; clear hb1)
      | (refine wpList_store_box rfl 29 _ _ rfl (w.heap.size + 1) _ rfl rfl _ HB1.out.box Try.info29 rfl (by simp [Value.oneCell']) ?_; intro w5 hx5 hg5; have hc := hx5.cell; have HB5 : Hid _ := HB1.out.fin hx5 hg5))
    exact bodyPost_ret (by simp [results, Try.results129, go_sem, hc]) rfl ⟨rfl, HB5.out.bel⟩
/-- What stands there. -/
def litB (T t : ByteArray) (p : Nat) : Bool := Lib.hasPrefix (T.extract p T.size).data.toList t.data.toList
theorem litB_iff (T t : ByteArray) (p : Nat) (hp : p ≤ T.size) : litB T t p = decide ((T.data.toList.drop p).take t.size = t.data.toList) := by
  unfold litB
  have h1 : (T.extract p T.size).data.toList = T.data.toList.drop p := by
    rw [Lib.extract_data]
    exact List.take_of_length_le (by rw [List.length_drop]; exact Nat.le_refl _)
  rw [h1, ← Lib.hasPrefix_of_take]
  have h2 : t.data.toList.length = t.size := rfl
  rw [h2, Bool.eq_iff_iff, Bool.and_eq_true, decide_eq_true_iff, decide_eq_true_iff, beq_iff_eq]
  constructor
  · exact fun h => h.2
  · intro h
    refine ⟨?_, h⟩
    have := congrArg List.length h
    rw [List.length_take, h2] at this
    omega
set_option maxRecDepth 20000 in
set_option maxHeartbeats 4000000 in
theorem literal_any (T t : ByteArray) (tb tO p : Nat) (w : World) (hT : w.cell? ⟨tb, tO, none⟩ = some (.string T)) (hs : T.size ≤ 60) (htb : tb < w.heap.size) (hp : p ≤ T.size) :
    Calls Try.prog 130 #[.pointer (some ⟨tb, tO, none⟩), .string t, .int .i64 (p : Int)] w fun e w' => e = .returned (if litB T t p = true then .agg #[.bool true, .int .i64 (t.size : Int)] else .agg #[.bool false, .int .i64 0]) ∧ Below w.heap.size w w' := by
  have HB : Hid _ := Bq.new (Below.refl w.heap.size w)
  have hT2 := (HB.out.bel.cell (p := ⟨tb, tO, none⟩) htb).trans hT
  have hf := fun W => failed_any W
  have ht := fun W => took_any (t.size : Int) W
  have hh := fun W => Try.strings_HasPrefix (T.extract p T.size) t W
  obtain ⟨z, hz⟩ : ∃ z, litB T t p = z := ⟨_, rfl⟩
  rw [hz]
  rw [show Lib.hasPrefix (T.extract p T.size).data.toList t.data.toList = z from hz] at hh
  clear hz
  cases z
  · go_enter Try.func130, Try.ntmps130
    go_wp2_with (first
      | (go_at_call 90; refine (hh _).mono ?_; rintro e0 W0 ⟨rfl, rfl⟩)
      | (go_at_call 146; refine (hf _).mono ?_; rintro e1 W1 ⟨rfl, hb1⟩; have HB1 : Hid _ := HB.out.step hb1; clear hb1)
      | (refine wpList_store_box rfl 29 _ _ rfl w.heap.size _ rfl rfl _ HB1.out.box Try.info29 rfl (by simp [Value.oneCell']) ?_; intro w5 hx5 hg5; have hc := hx5.cell; have HB5 : Hid _ := HB1.out.fin hx5 hg5))
    exact bodyPost_ret (by simp [results, Try.results130, go_sem, hc]) rfl ⟨rfl, HB5.out.bel⟩
  · go_enter Try.func130, Try.ntmps130
    go_wp2_with (first
      | (go_at_call 90; refine (hh _).mono ?_; rintro e0 W0 ⟨rfl, rfl⟩)
      | (go_at_call 128; refine (ht _).mono ?_; rintro e1 W1 ⟨rfl, hb1⟩; have HB1 : Hid _ := HB.out.step hb1; clear hb1)
      | (refine wpList_store_box rfl 29 _ _ rfl w.heap.size _ rfl rfl _ HB1.out.box Try.info29 rfl (by simp [Value.oneCell']) ?_; intro w5 hx5 hg5; have hc := hx5.cell; have HB5 : Hid _ := HB1.out.fin hx5 hg5))
    exact bodyPost_ret (by simp [results, Try.results130, go_sem, hc]) rfl ⟨rfl, HB5.out.bel⟩
end Go.Proofs.Ytokdaapmejccbaa
