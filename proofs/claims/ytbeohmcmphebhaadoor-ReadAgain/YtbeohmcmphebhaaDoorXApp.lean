import Derived.Test.YtbeohmcmphebhaaDoorXFull
import Derived.Test.YtbeohmcmphebhaaDoorXQClass
import Derived.Deep.RegionLaw
namespace Go.Proofs.YtbeohmcmphebhaaDoor
set_option maxRecDepth 20000
open Go.RowKit
set_option linter.unusedVariables false
/-- Of v in w a longer slice v' in w' was made: its row alone was turned, or a new one was made. -/
structure App (base : Nat) (w : World) (v : Value) (w' : World) (v' : Value) (l : List UInt8) : Prop where
  own : Holds w' base v' l
  grown : w.grownBy w' v.ownBlock
  lies : ∀ k, v'.ownBlock = some k → k < w.heap.size → v.ownBlock = some k
theorem App.refl {base : Nat} {w : World} {v : Value} {l : List UInt8} (h : Holds w base v l) : App base w v w v l := ⟨h, ⟨rfl, rfl, rfl, Nat.le_refl _, fun _ _ _ => rfl⟩, fun _ h _ => h⟩
theorem App.trans {base : Nat} {w w1 w2 : World} {v v1 v2 : Value} {l1 l2 : List UInt8} (h : App base w v w1 v1 l1) (h2 : App base w1 v1 w2 v2 l2) : App base w v w2 v2 l2 :=
  ⟨h2.own, grown_trans h.grown h2.grown h.lies, fun k hk hlt => h.lies k (h2.lies k hk (Nat.lt_of_lt_of_le hlt h.grown.size)) hlt⟩
/-- Ahead of it something was made. -/
theorem App.after {base : Nat} {w w1 w2 : World} {v v2 : Value} {l2 : List UInt8} (hb : Below w.heap.size w w1) (h2 : App base w1 v w2 v2 l2) : App base w v w2 v2 l2 :=
  ⟨h2.own, ⟨h2.grown.os.trans hb.os, h2.grown.tape.trans hb.tape, h2.grown.output.trans hb.output, Nat.le_trans hb.size h2.grown.size, fun k hk hn => (h2.grown.block k (Nat.lt_of_lt_of_le hk hb.size) hn).trans (hb.block k hk)⟩, fun k hk hlt => h2.lies k hk (Nat.lt_of_lt_of_le hlt hb.size)⟩
theorem App.then {base : Nat} {w w1 w2 : World} {v v1 : Value} {l1 : List UInt8} (h : App base w v w1 v1 l1) (hb : Below w1.heap.size w1 w2) : App base w v w2 v1 l1 :=
  ⟨h.own.below hb, ⟨hb.os.trans h.grown.os, hb.tape.trans h.grown.tape, hb.output.trans h.grown.output, Nat.le_trans h.grown.size hb.size, fun k hk hn => (hb.block k (Nat.lt_of_lt_of_le hk h.grown.size)).trans (h.grown.block k hk hn)⟩, h.lies⟩
theorem App.low {base : Nat} {w w1 : World} {v v1 : Value} {l l1 : List UInt8} (h : App base w v w1 v1 l1) (hv : Holds w base v l) (hb : base ≤ w.heap.size) : Below base w w1 :=
  (Below.refl base w).grown h.grown hb (fun k hk => (World.ownsRow.lt hv k hk).1)
/-- A block that is no row of bytes stays. -/
theorem App.box {base : Nat} {w w1 : World} {v v1 : Value} {l l1 : List UInt8} (h : App base w v w1 v1 l1) (hv : Holds w base v l) {B : Nat} {t : TypeId} {cs : Array Value} (ht : t ≠ 5) (hx : BoxN w B t cs) : BoxN w1 B t cs := by
  refine hx.kept h.grown (fun e => ?_)
  rcases hv.2 with ⟨rfl, _⟩ | ⟨g, cap, cur, rfl, _, hg, _⟩
  · simp [Value.ownBlock] at e
  · simp [Value.ownBlock] at e
    subst e
    rw [show w.heap[B]? = _ from hx] at hg
    cases hg
    exact ht rfl
/-- Another block stays. -/
theorem App.other {base : Nat} {w w1 : World} {v v1 : Value} {l1 : List UInt8} (h : App base w v w1 v1 l1) {B : Nat} {t : TypeId} {cs : Array Value} (hx : BoxN w B t cs) (hne : some B ≠ v.ownBlock) : BoxN w1 B t cs := hx.kept h.grown hne
theorem Holds.ne {base : Nat} {w : World} {v : Value} {l : List UInt8} (hv : Holds w base v l) {B : Nat} (hB : w.heap.size ≤ B) : some B ≠ v.ownBlock := fun e => by
  have := World.ownsRow.lt hv B e.symm
  omega
theorem strCells_bcs (s : ByteArray) : Lib.strCells s = bcs s.data.toList := by
  simp [Lib.strCells, bcs]
theorem bcs_len (l : List UInt8) : (bcs l).length = l.length := by simp [bcs]
/-- Where the slice lies that an append of a text makes. -/
theorem str_lies {base : Nat} {w w' : World} {v v' : Value} {l : List UInt8} {i : TypeInfo} (hi : Tryd.prog.info? 5 = some i) (hz : i.zero = some (.int .u8 0)) (hsize : i.size = 1) (hby : i.bytes = 1) (h : Holds w base v l) (s : ByteArray) (ty : TypeId) (hs : l.length + s.size ≤ 100000000)
    (hr : (Builtin.append_ #[49, 9] ty #[v, .string s]).run Tryd.prog w = .ok v' w') : ∀ k, v'.ownBlock = some k → k < w.heap.size → v.ownBlock = some k := by
  intro k hk hlt
  rcases h.2 with ⟨rfl, h0⟩ | ⟨g, cap, cur, rfl, hbg, hg, hnc, hcm, hcs, htake⟩
  · have hl : l = [] := List.eq_nil_of_length_eq_zero h0
    subst hl
    obtain ⟨v2, w2, hr2, h2, _⟩ := Lib.run_append_own_string (P := Tryd.prog) w w.heap.size 49 9 ty 5 i Tryd.underlying49 Tryd.underlying9 hi hz hsize hby (.slice none 0 0) 0 [] (World.ownsRow_nil _ _ _ _) s (by unfold maxLen; simp at hs ⊢; omega) (by simp at hs ⊢; omega) (Nat.le_refl _)
    rw [hr] at hr2
    injection hr2 with e1 e2
    subst e1
    have := World.ownsRow.lt h2 k hk
    omega
  · have hcs' : cur.size = cap := by simpa using hcs
    by_cases hroom : l.length + s.size ≤ cap
    · have hr2 := Lib.run_append_room_string (P := Tryd.prog) w 49 9 ty 5 i Tryd.underlying49 Tryd.underlying9 hi hsize g l.length cap cur hg s hroom (by omega)
      rw [hr] at hr2
      have e1 := (Result.ok.inj hr2).1
      rw [e1] at hk
      exact hk
    · have hr2 := Lib.run_append_grow_string (P := Tryd.prog) w 49 9 ty 5 i (.int .u8 0) Tryd.underlying49 Tryd.underlying9 hi hz ⟨g, 0, none⟩ l.length cap (bcs l) (by rw [hsize, bcs_len]; omega) (h.cells (g := g) rfl) s (by omega) (by omega) (by rw [hby]; exact growslice_fits (by omega) (by omega))
      rw [hr] at hr2
      have e1 := (Result.ok.inj hr2).1
      rw [e1] at hk
      simp only [Value.ownBlock, Option.some.injEq] at hk
      omega
theorem app_str {base : Nat} {w : World} {v : Value} {l : List UInt8} (h : Holds w base v l) (hbase : base ≤ w.heap.size) (s : ByteArray) (ty : TypeId) (hs : l.length + s.size ≤ 100000000) :
    ∃ v' w', (Builtin.append_ #[49, 9] ty #[v, .string s]).run Tryd.prog w = .ok v' w' ∧ App base w v w' v' (l ++ s.data.toList) := by
  obtain ⟨i0, hi, hz⟩ : ∃ i0, Tryd.prog.info? 5 = some i0 ∧ (i0.zero, i0.size, i0.bytes) = (some (.int .u8 0), 1, 1) := by
    simpa [Option.map_eq_some_iff] using Tryd.info5
  simp only [Prod.mk.injEq] at hz
  obtain ⟨hz0, hz1, hz2⟩ := hz
  obtain ⟨v', w', hr, h2, h3, _⟩ := Lib.run_append_own_string (P := Tryd.prog) w base 49 9 ty 5 i0 Tryd.underlying49 Tryd.underlying9 hi hz0 hz1 hz2 v l.length (bcs l) h s (by unfold maxLen; omega) (by omega) hbase
  refine ⟨v', w', hr, ⟨?_, h3, str_lies hi hz0 hz1 hz2 h s ty hs hr⟩⟩
  unfold Holds
  rw [List.length_append, bcs_app, ← strCells_bcs]
  exact h2
theorem app_byte {base : Nat} {w : World} {v : Value} {l : List UInt8} (h : Holds w base v l) (hbase : base ≤ w.heap.size) (B : Nat) (c : UInt8) (hB : BoxN w B 5 #[.int .u8 (c.toNat : Int)]) (ty : TypeId) (hs : l.length ≤ 100000000) :
    ∃ v' w', (Builtin.append_ #[49, 49] ty #[v, .slice (some ⟨B, 0, none⟩) 1 1]).run Tryd.prog w = .ok v' w' ∧ App base w v w' v' (l ++ [c]) := by
  obtain ⟨i0, hi, hz⟩ : ∃ i0, Tryd.prog.info? 5 = some i0 ∧ (i0.zero, i0.size, i0.bytes) = (some (.int .u8 0), 1, 1) := by
    simpa [Option.map_eq_some_iff] using Tryd.info5
  simp only [Prod.mk.injEq] at hz
  obtain ⟨hz0, hz1, hz2⟩ := hz
  obtain ⟨v', w', hr, h2, h3, _, h5⟩ := run_append_own_at (P := Tryd.prog) w base 49 ty 5 i0 (.int .u8 0) 1 1 Tryd.underlying49 hi hz0 hz1 hz2 rfl (by decide) v l.length (bcs l) h ⟨B, 0, none⟩ 1 1 [.int .u8 (c.toNat : Int)] rfl
    (fun j u hu => by match j, hu with | 0, hu => (simp at hu; subst hu; have := hB.cell 0; simpa [Addr.add] using this)) (fun u hu => by simp at hu; subst hu; rfl) (by unfold maxLen; omega) (by omega) hbase
  refine ⟨v', w', hr, ⟨?_, h3, fun k hk hlt => ?_⟩⟩
  · unfold Holds
    rw [List.length_append, bcs_app]
    exact h2
  · rcases h5 with h5 | h5
    · rw [← h5]; exact hk
    · rw [hk] at h5; cases h5; omega
theorem wpList_app_str {ops : Array Oper} {rest : List Oper} {o : Oper} {a : Act} {Q : Exit → Act → World → Prop} {w : World} (hgd : o.guard = none) (sl x : Operand) (ho : o.op = .call { callee := .builtin .append, args := #[sl, x], argTypes := #[49, 9] })
    {base : Nat} {v : Value} {l : List UInt8} (hs : a.eval sl = v) (h : Holds w base v l) (hbase : base ≤ w.heap.size) (s : ByteArray) (hx : a.eval x = .string s) (hl : l.length + s.size ≤ 100000000)
    (hK : ∀ v' w', App base w v w' v' (l ++ s.data.toList) → wpList Tryd.prog ops Q rest (a.put o.dst v') w') : wpList Tryd.prog ops Q (o :: rest) a w := by
  refine wpList_plain hgd fun K hK' => ?_
  obtain ⟨v', w', hr, hA⟩ := app_str h hbase s o.type hl
  unfold Oper.wp execOp
  simp only [ho, resolve, invoke, builtin, Sem.run_bind, Sem.run_pure, Result.andThen_ok, List.map_toArray, List.map_cons, List.map_nil, hs, hx, hr]
  exact hK' _ _ (hK v' w' hA)
theorem wpList_app_byte {ops : Array Oper} {rest : List Oper} {o : Oper} {a : Act} {Q : Exit → Act → World → Prop} {w : World} (hgd : o.guard = none) (sl x : Operand) (ho : o.op = .call { callee := .builtin .append, args := #[sl, x], argTypes := #[49, 49] })
    {base : Nat} {v : Value} {l : List UInt8} (hs : a.eval sl = v) (h : Holds w base v l) (hbase : base ≤ w.heap.size) (B : Nat) (c : UInt8) (hB : BoxN w B 5 #[.int .u8 (c.toNat : Int)]) (hx : a.eval x = .slice (some ⟨B, 0, none⟩) 1 1) (hl : l.length ≤ 100000000)
    (hK : ∀ v' w', App base w v w' v' (l ++ [c]) → wpList Tryd.prog ops Q rest (a.put o.dst v') w') : wpList Tryd.prog ops Q (o :: rest) a w := by
  refine wpList_plain hgd fun K hK' => ?_
  obtain ⟨v', w', hr, hA⟩ := app_byte h hbase B c hB o.type hl
  unfold Oper.wp execOp
  simp only [ho, resolve, invoke, builtin, Sem.run_bind, Sem.run_pure, Result.andThen_ok, List.map_toArray, List.map_cons, List.map_nil, hs, hx, hr]
  exact hK' _ _ (hK v' w' hA)
/-- .. at a step of a region that draws its order. -/
theorem step_app_byte {ops : Array Oper} {o : Oper} {a : Act} {K : Act → World → Prop} {Q : Exit → Act → World → Prop} {E : Prop} {w : World} (hgd : o.guard = none) (sl x : Operand) (ho : o.op = .call { callee := .builtin .append, args := #[sl, x], argTypes := #[49, 49] })
    {base : Nat} {v : Value} {l : List UInt8} (hs : a.eval sl = v) (h : Holds w base v l) (hbase : base ≤ w.heap.size) (B : Nat) (c : UInt8) (hB : BoxN w B 5 #[.int .u8 (c.toNat : Int)]) (hx : a.eval x = .slice (some ⟨B, 0, none⟩) 1 1) (hl : l.length ≤ 100000000)
    (hK : ∀ v' w', App base w v w' v' (l ++ [c]) → K (a.put o.dst v') w') : if Region.wanted o (yielded ops a.tmps) = true then Oper.wp Tryd.prog o a w K Q else E := by
  have hw : Region.wanted o (yielded ops a.tmps) = true := by simp [Region.wanted, hgd]
  rw [if_pos hw]
  obtain ⟨v', w', hr, hA⟩ := app_byte h hbase B c hB o.type hl
  unfold Oper.wp execOp
  simp only [ho, resolve, invoke, builtin, Sem.run_bind, Sem.run_pure, Result.andThen_ok, List.map_toArray, List.map_cons, List.map_nil, hs, hx, hr]
  exact hK v' w' hA
set_option maxHeartbeats 400000 in
theorem tight_any (k : Int) (w : World) : Calls Tryd.prog 68 #[.int .i64 k] w fun e w' => e = .returned (.int .i64 (tight k)) ∧ w' = w := by
  unfold tight
  by_cases h6 : k = 6
  · subst h6
    go_enter Tryd.func68, Tryd.ntmps68
    go_wp2_with fail
    go_ret
    exact ⟨rfl, rfl⟩
  have g6 : (k == 6) = false := by simpa using h6
  rw [if_neg h6]
  by_cases h5 : k = 5
  · subst h5
    go_enter Tryd.func68, Tryd.ntmps68
    go_wp2_with fail
    go_ret
    exact ⟨rfl, rfl⟩
  have g5 : (k == 5) = false := by simpa using h5
  rw [if_neg h5]
  by_cases h10 : k = 10
  · subst h10
    go_enter Tryd.func68, Tryd.ntmps68
    go_wp2_with fail
    go_ret
    exact ⟨rfl, rfl⟩
  have g10 : (k == 10) = false := by simpa using h10
  by_cases h11 : k = 11
  · subst h11
    go_enter Tryd.func68, Tryd.ntmps68
    go_wp2_with fail
    go_ret
    exact ⟨rfl, rfl⟩
  have g11 : (k == 11) = false := by simpa using h11
  rw [if_neg (by omega)]
  clear h6 h5 h10 h11
  go_enter Tryd.func68, Tryd.ntmps68
  go_wp2_with fail
  go_ret
  exact ⟨rfl, rfl⟩
set_option maxHeartbeats 400000 in
theorem sgn_any (k : Int) (w : World) : Calls Tryd.prog 44 #[.int .i64 k] w fun e w' => e = .returned (.int .u8 ((sgn k).toNat : Int)) ∧ w' = w := by
  unfold sgn
  by_cases h7 : k = 7
  · subst h7
    go_enter Tryd.func44, Tryd.ntmps44
    go_wp2_with fail
    go_ret
    exact ⟨rfl, rfl⟩
  have g7 : (k == 7) = false := by simpa using h7
  rw [if_neg h7]
  by_cases h8 : k = 8
  · subst h8
    go_enter Tryd.func44, Tryd.ntmps44
    go_wp2_with fail
    go_ret
    exact ⟨rfl, rfl⟩
  have g8 : (k == 8) = false := by simpa using h8
  rw [if_neg h8]
  clear h7 h8
  go_enter Tryd.func44, Tryd.ntmps44
  go_wp2_with fail
  go_ret
  exact ⟨rfl, rfl⟩
end Go.Proofs.YtbeohmcmphebhaaDoor
