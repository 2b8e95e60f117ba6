import Derived.Test.YtokdaapmejccbaaXRrefs
import Derived.Test.YtokdaapmejccbaaXGoT
import Derived.Maps.OwnIn
import Derived.Stop.RegionWithIn
import Derived.RangeFuncBox
import Derived.StringKeys
namespace Go.Proofs.Ytokdaapmejccbaa
open Go.RowKit Go.Shelf
attribute [local go_sem] Oper.semAt_some
set_option linter.unusedVariables false
theorem law9 : Go.Maps.Keyed Try.prog 9 := Go.Maps.string_keyed Try.underlying9
theorem zero53 (w : World) : (zeroValue 132).run Try.prog w = .ok (.agg #[]) w := by kernel_rfl
/-- A name as a key. -/
def keyS (s : ByteArray) : Lit := .string s.data.toList
/-- The names as a set. -/
def seenD (l : List ByteArray) : DataW Unit := Go.Maps.setOf (.agg []) (l.map keyS)
theorem seenD_snoc (l : List ByteArray) (s : ByteArray) : seenD (l ++ [s]) = (seenD l).put (keyS s) (.agg []) := by
  unfold seenD
  rw [List.map_append, List.map_cons, List.map_nil, Go.Maps.setOf_snoc]
theorem seenD_has (l : List ByteArray) (s : ByteArray) : Go.Maps.has (seenD l) (keyS s) = Lib.containsS l s := by
  unfold seenD
  rw [Go.Maps.has_setOf _ _ _ (fun x hx => by obtain ⟨y, _, rfl⟩ := List.mem_map.1 hx; trivial), Bool.eq_iff_iff, Lib.containsS_iff, List.any_eq_true]
  constructor
  · rintro ⟨x, hx, hs⟩
    obtain ⟨y, hy, rfl⟩ := List.mem_map.1 hx
    have h1 : y.data.toList = s.data.toList := by simpa [keyS, Lit.sameKey] using hs
    have : y = s := by
      obtain ⟨⟨a⟩⟩ := y
      obtain ⟨⟨b⟩⟩ := s
      simp at h1
      rw [h1]
    rw [← this]; exact hy
  · intro h
    exact ⟨keyS s, List.mem_map.2 ⟨s, h, rfl⟩, by simp [keyS, Lit.sameKey]⟩
theorem clone_any (s : ByteArray) (w : World) (hs : s.size ≤ 140737488355328) : Calls Try.prog 140 #[.string s] w fun e w' => e = .returned (.string s) ∧ Below w.heap.size w w' := by
  have h := Try.stringslite_Clone s
  go_enter Try.func140, Try.ntmps140
  go_wp2_with (go_at_call 148; refine (h _ (by omega)).mono ?_; rintro e w' ⟨rfl, hb⟩)
  go_ret
  exact ⟨rfl, hb⟩
/-- The names of nodes. -/
def refsN (l : List Nod) : List ByteArray := refsOf (l.map (·.1))
theorem refsN_snoc (l : List Nod) (x : Nod) : refsN (l ++ [x]) = refStep (refsN l) x.1 := by unfold refsN; rw [List.map_append]; exact refsOf_snoc _ _
theorem refsN_len (l : List Nod) : (refsN l).length ≤ l.length := by have := refsOf_len (l.map (·.1)); rwa [List.length_map] at this
/-- All that Refs keeps, the nodes pre being done. -/
structure Rf (w : World) (N M S B : Nat) (pre : List Nod) (W : World) : Prop where
  names : ∃ v, Boxed W N 168 v ∧ Ss W B v (refsN pre)
  seen : Boxed W S 201 (.map (some M))
  map : W.ownsMap Try.prog 9 (Go.unitElem (H := Unit)) M (refsN pre).length (seenD (refsN pre))
  low : Below w.heap.size w W
  sz : B ≤ W.heap.size
theorem rf_own (w : World) (N M S B : Nat) (hw : w.heap.size ≤ B) (hM : M < B) : OwnFrom B (Rf w N M S B) := by
  rintro s X Y row ⟨⟨v, h1, h2⟩, h3, h4, h5, h6⟩ hg hr
  refine ⟨?_, boxed_own S 201 (fun (_ : Unit) => Value.map (some M)) () X Y row h3 hg (fun r e => (hr r e).2), h4.kept hg (fun e => by have := (hr M e.symm).1; omega), h5.grown hg h5.size (fun k hk => by have := (hr k hk).1; omega), Nat.le_trans h6 hg.size⟩
  obtain ⟨v', a, b, _⟩ := holdsRow_own B N 168 9 1 (fun (_ : Unit) => (refsN s).length) (fun _ => scs (refsN s)) (fun _ _ => True) () X Y row ⟨v, h1, h2, trivial⟩ hg (fun r e => (hr r e).2)
  exact ⟨v', a, b⟩
theorem Rf.alloc {w : World} {N M S B : Nat} {pre : List Nod} {W : World} (h : Rf w N M S B pre W) (o : Obj) : Rf w N M S B pre (W.alloc o) := by
  obtain ⟨⟨v, h1, h2⟩, h3, h4, h5, h6⟩ := h
  exact ⟨⟨v, h1.alloc o, World.ownsRow.alloc h2 o⟩, h3.alloc o, h4.alloc o, h5.alloc h5.size o, by simp; omega⟩
theorem Rf.same {w : World} {N M S B : Nat} {pre : List Nod} {x : Nod} {W : World} (h : Rf w N M S B pre W) (hx : refStep (refsN pre) x.1 = refsN pre) : Rf w N M S B (pre ++ [x]) W := by
  obtain ⟨h1, h3, h4, h5, h6⟩ := h
  rw [← hx, ← refsN_snoc] at h1 h4
  exact ⟨h1, h3, h4, h5, h6⟩
theorem refs_stay_kind (pre : List Nod) (x : Nod) (h : x.1.2.k ≠ 4) : refStep (refsN pre) x.1 = refsN pre := by unfold refStep; rw [if_neg (fun h1 => h h1.1)]
theorem refs_stay_old (pre : List Nod) (x : Nod) (h : Lib.containsS (refsN pre) x.1.2.t = true) : refStep (refsN pre) x.1 = refsN pre := by unfold refStep; rw [if_neg (by rw [h]; simp)]
theorem refs_new (pre : List Nod) (x : Nod) (hk : x.1.2.k = 4) (h : Lib.containsS (refsN pre) x.1.2.t = false) : refsN (pre ++ [x]) = refsN pre ++ [x.1.2.t] := by rw [refsN_snoc]; unfold refStep; rw [if_pos ⟨hk, h⟩]
theorem stepIn_append {F : Fence} {nF : Nat} {P : Program} (w : World) {ops : Array Oper} {o : Oper} {a : Act} {K : Act → World → Prop} {Q : Exit → Act → World → Prop} {E : Prop} (hgd : o.guard = none) (s x : Operand) (t : TypeId)
    (ho : o.op = .call { callee := .builtin .append, args := #[s, x], argTypes := #[t, t] })
    (base : Nat) (e : TypeId) (i : TypeInfo) (z : Value) (size bytes : Nat) (ht : P.underlying t = some (.slice e)) (hi : P.info? e = some i) (hz : i.zero = some z)
    (hsize : i.size = size) (hby : i.bytes = bytes) (hzs : z.cells.size = size) (hsz : 0 < size)
    (v : Value) (n : Nat) (xs : List Value) (hs : a.eval s = v) (hown : w.ownsRow base e size v n xs)
    (ad : Addr) (m c : Nat) (news : List Value) (hx : a.eval x = .slice (some ad) m c) (hl : news.length = m * size) (hnews : ∀ j u, news[j]? = some u → w.cell? (ad.add j) = some u) (h1 : ∀ u ∈ news, u.oneCell' = true)
    (h63 : n + m ≤ maxLen) (hbytes : (n + m) * bytes ≤ 140737488355328) (hbase : base ≤ w.heap.size)
    (h : ∀ v' w', w'.ownsRow base e size v' (n + m) (xs ++ news) → w.grownBy w' v.ownBlock → K (a.put o.dst v') w') :
    if Region.wanted o (yielded ops a.tmps) = true then Oper.wpIn F nF P o a w K Q else E := by
  have hw : Region.wanted o (yielded ops a.tmps) = true := by simp [Region.wanted, hgd]
  rw [if_pos hw]
  obtain ⟨v', w', hr, h2, h3, _⟩ := run_append_own (P := P) w base t o.type e i z size bytes ht hi hz hsize hby hzs hsz v n xs hown ad m c news hl hnews h1 h63 hbytes hbase
  unfold Oper.wpIn
  refine ⟨by simp [Oper.about, ho, resolve, Target.leads, Sem.run_pure], ?_⟩
  rw [Oper.semAt_plain F _ _ (by rw [ho]; intro c hc'; cases hc')]
  simp [execOp, ho, resolve, invoke, builtin, hs, hx, hr, Result.andThen]
  exact h v' w' h2 h3
theorem refs_fin {w W W1 W0 w1 W3 w5 : World} {g5 cap5 : Nat} {pre : List Nod} {x : Nod} {v : Value} (hW3 : Below w1.heap.size w1 W3) (bN1 : Boxed w1 W1.heap.size 168 v) (hv1 : Ss w1 (W1.heap.size + 4) v (refsN pre)) (bS1 : Boxed w1 (W1.heap.size + 1 + 1) 201 (.map (some (W1.heap.size + 1))))
    (hown1 : w1.ownsMap Try.prog 9 (Go.unitElem (H := Unit)) (W1.heap.size + 1) ((refsN pre).length + 1) (seenD (refsN pre ++ [x.1.2.t]))) (hL1 : Below w.heap.size w w1) (hK1 : KeepsFrom W0.heap.size W w1) (hT1 : Kt w.heap.size W w1) (hsz1 : W1.heap.size + 4 ≤ w1.heap.size) (hw1 : w.heap.size ≤ W1.heap.size) (hW0 : W1.heap.size + 4 ≤ W0.heap.size) (hRN : refsN (pre ++ [x]) = refsN pre ++ [x.1.2.t])
    (hown5 : w5.ownsRow (W1.heap.size + 4) 9 1 (.slice (some ⟨g5, 0, none⟩) ((refsN pre).length + 1) cap5) ((refsN pre).length + 1) (scs (refsN pre) ++ [.string x.1.2.t])) (hgrow5 : (W3.alloc (.cells #[.string x.1.2.t] 9)).grownBy w5 v.ownBlock) :
    Boxed w5 W1.heap.size 168 v ∧ KeepsFrom W0.heap.size W (w5.setCell ⟨W1.heap.size, 0, none⟩ (.slice (some ⟨g5, 0, none⟩) ((refsN pre).length + 1) cap5)) ∧ Kt w.heap.size W (w5.setCell ⟨W1.heap.size, 0, none⟩ (.slice (some ⟨g5, 0, none⟩) ((refsN pre).length + 1) cap5)) ∧ Rf w W1.heap.size (W1.heap.size + 1) (W1.heap.size + 1 + 1) (W1.heap.size + 4) (pre ++ [x]) (w5.setCell ⟨W1.heap.size, 0, none⟩ (.slice (some ⟨g5, 0, none⟩) ((refsN pre).length + 1) cap5)) := by
  have hv3 := hv1.below hW3
  have hbk : ∀ k, v.ownBlock = some k → W1.heap.size + 4 ≤ k := fun k hk => (World.ownsRow.lt hv1 k hk).1
  have hne : ∀ b, b < W1.heap.size + 4 → some b ≠ v.ownBlock := fun b hb e => by have := hbk b e.symm; omega
  have hs3 := hW3.size
  have hg3 : ∀ k, k < w1.heap.size → some k ≠ v.ownBlock → w5.heap[k]? = w1.heap[k]? := fun k hk hn => by
    rw [hgrow5.block k (by simp; omega) hn, Below.heap_alloc W3 _ k (by omega), hW3.block k hk]
  have hs5 : w1.heap.size ≤ w5.heap.size := by have := hgrow5.size; simp at this; omega
  have bN5 : Boxed w5 W1.heap.size 168 v := by unfold Boxed at bN1 ⊢; rw [hg3 _ (by omega) (hne _ (by omega))]; exact bN1
  have bS5 : Boxed w5 (W1.heap.size + 1 + 1) 201 (.map (some (W1.heap.size + 1))) := by unfold Boxed at bS1 ⊢; rw [hg3 _ (by omega) (hne _ (by omega))]; exact bS1
  have hM5 : w5.ownsMap Try.prog 9 (Go.unitElem (H := Unit)) (W1.heap.size + 1) ((refsN pre).length + 1) (seenD (refsN pre ++ [x.1.2.t])) := by
    obtain ⟨es, ck, h1, h2⟩ := hown1
    exact ⟨es, ck, by rw [hg3 _ (by omega) (hne _ (by omega))]; exact h1, h2⟩
  have hrow9 : ∀ k, v.ownBlock = some k → ∃ cur fz, w1.heap[k]? = some (Obj.cells cur 9 fz) := fun k hk => by
    rcases hv1.2 with ⟨rfl, _⟩ | ⟨g, cap, cur, rfl, _, h1, _⟩
    · simp [Value.ownBlock] at hk
    · simp [Value.ownBlock] at hk; subst hk; exact ⟨cur, _, h1⟩
  have hL5 : Below w.heap.size w w5 := ((hL1.trans (hW3.mono hL1.size)).alloc (Nat.le_trans hL1.size hs3) _).grown hgrow5 (by have := hL1.size; simp; omega) (fun k hk => by have := hbk k hk; omega)
  have hK5 : KeepsFrom W0.heap.size W w5 := hK1.trans ⟨hs5, fun k o hk ho hc => by
    have hlt := (Array.getElem?_eq_some_iff.1 ho).1
    rw [hg3 k hlt (fun e => by
      obtain ⟨cur, fz, h1⟩ := hrow9 k e.symm
      rw [h1] at ho; cases ho; cases hc)]
    exact ho⟩
  have hT5 : Kt w.heap.size W w5 := hT1.trans ⟨hs5, fun k o hk ho hc => by rw [hg3 k (Array.getElem?_eq_some_iff.1 ho).1 (hne k (by omega))]; exact ho, fun k cs fr ho => by
    rw [hg3 k (Array.getElem?_eq_some_iff.1 ho).1 (fun e => by
      obtain ⟨cur, fz, h1⟩ := hrow9 k e.symm
      rw [h1] at ho; cases ho)]
    exact ho⟩
  refine ⟨bN5, hK5.trans ((KeepsOthers.setCell _ _ _).from _), hT5.trans ⟨by simp, fun k o hk ho hc => (Below.heap_setCell w5 _ _ k (by show k ≠ W1.heap.size; omega)).trans ho, fun k cs fr ho => (Below.heap_setCell w5 _ _ k (by
    show k ≠ W1.heap.size
    rintro rfl
    rw [show w5.heap[W1.heap.size]? = _ from bN5] at ho
    cases ho)).trans ho⟩, ?_⟩
  refine ⟨⟨_, bN5.set _, ?_⟩, bS5.other (by omega) _, ?_, hL5.setCell (p := ⟨W1.heap.size, 0, none⟩) (by show w.heap.size ≤ W1.heap.size; omega) _, by simp; omega⟩
  · have h1 : Ss w5 (W1.heap.size + 4) (.slice (some ⟨g5, 0, none⟩) ((refsN pre).length + 1) cap5) (refsN (pre ++ [x])) := by
      unfold Ss
      rw [hRN, List.length_append]
      simpa [scs] using hown5
    exact ownsRow_setCell_below h1 (a := ⟨W1.heap.size, 0, none⟩) (by show W1.heap.size < W1.heap.size + 4; omega) _
  · rw [hRN, List.length_append]
    exact hM5.setCell (by show W1.heap.size + 1 ≠ W1.heap.size; omega) _
def refsR (e : Ex) : List ByteArray := if check e = 0 then refsOf (e.nodes 1) else []
set_option maxRecDepth 100000 in
set_option maxHeartbeats 4000000 in
theorem refs_in (n : Nat) (hn : 4 ≤ n) (e : Ex) (w : World) (hin : e.In w.heap.size w) :
    CallsIn Fence.wide n Try.prog 117 #[e.val] w fun r W' => ∃ v, r = .returned (.tuple #[v, .int .i64 (check e)]) ∧ Ss W' w.heap.size v (refsR e) ∧ Below w.heap.size w W' := by
  obtain ⟨i0, hi, hz⟩ : ∃ i0, Try.prog.info? 9 = some i0 ∧ (i0.zero, i0.size, i0.bytes) = (some (.string ByteArray.empty), 1, 16) := by
    simpa [Option.map_eq_some_iff] using Try.info9
  simp only [Prod.mk.injEq] at hz
  obtain ⟨hz0, hz1, hz2⟩ := hz
  have h1 : 1 ≤ n := by omega
  have hdd : ∀ k : Nat, (Fence.wide.depth.isSome = true → 1 ≤ k) := fun k h => by cases h
  have hnodes := fun w => nodes_in (n - 1) e w
  have hA := (Below.refl w.heap.size w).alloc (Nat.le_refl _) (.cells e.cells 57)
  have hcheck := check_in (n - 1) (by omega) e (w.alloc (.cells e.cells 57)) (hin.grow hA)
  have bE := BoxN.new w 57 e.cells
  have hmm := @run_makeMap Try.prog
  refine callsIn_of_wp_marks Try.func117 rfl trivial ?_ rfl
  rw [val_eq] at hnodes hcheck ⊢
  simp only [Try.ntmps117, List.size_toArray, List.length_cons, List.length_nil, Nat.reduceAdd, Nat.reduceSub, Array.replicate_succ, Array.replicate_zero, List.push_toArray, List.append_toArray, List.nil_append, List.cons_append]
  simp only [cells_eq] at hcheck
  obtain ⟨R, hR⟩ : ∃ R, refsR e = R := ⟨_, rfl⟩
  have HS : Hid (refsR e = R) := hR
  rw [hR]
  clear hR
  have hE1 : ∀ {W1 : World}, Below (w.alloc (.cells e.cells 57)).heap.size (w.alloc (.cells e.cells 57)) W1 → BoxN W1 w.heap.size 57 e.cells ∧ Below w.heap.size w W1 := fun hb => ⟨bE.below hb (by simp), hA.trans (hb.mono (by simp))⟩
  have HE : Hid _ := @hE1
  clear hE1
  by_cases h0 : check e = 0
  · rw [h0] at hcheck ⊢
    gi_wp2_with (first
      | ((try refine ⟨trivial, ?_⟩); gi_at_call 86; refine hcheck.mono ?_; rintro r W1 ⟨rfl, hb1⟩; simp only [← cells_eq] at hb1; have bE1 := HE.out hb1; have cE1 := bE1.1.cell; have cE2 := (((bE1.1.alloc (.cells #[.slice none 0 0] 168)).alloc (.map #[] 0)).alloc (.cells #[.map (some (W1.heap.size + 1))] 201)).cell; rw [cells_eq] at cE1 cE2; clear hb1 hcheck)
      | ((try refine ⟨trivial, ?_⟩); gi_at_call 115; refine (hnodes _).mono ?_; rintro r w' ⟨rfl, rfl⟩))
    simp only [← cells_eq]
    clear hnodes cE1 cE2 HE bE hA hmm
    obtain ⟨bE1, hB1⟩ := bE1
    have hRf0 : Rf w W1.heap.size (W1.heap.size + 1) (W1.heap.size + 1 + 1) (W1.heap.size + 4) [] ((((W1.alloc (.cells #[.slice none 0 0] 168)).alloc (.map #[] 0)).alloc (.cells #[.map (some (W1.heap.size + 1))] 201)).alloc (.cells e.cells 57)) := by
      refine ⟨⟨_, (((Boxed.new W1 168 (.slice none 0 0)).alloc _).alloc _).alloc _, World.ownsRow_nil _ _ _ _⟩, ?_, ?_, (((hB1.alloc hB1.size _).alloc (by have := hB1.size; simp; omega) _).alloc (by have := hB1.size; simp; omega) _).alloc (by have := hB1.size; simp; omega) _, by simp⟩
      · have := Boxed.new ((W1.alloc (.cells #[.slice none 0 0] 168)).alloc (.map #[] 0)) 201 (.map (some (W1.heap.size + 1)))
        simp only [World.size_alloc] at this
        exact this.alloc _
      · have := World.ownsMap_made (H := Unit) (W1.alloc (.cells #[.slice none 0 0] 168)) Try.prog 9 Go.unitElem
        simp only [World.size_alloc] at this
        exact (this.alloc _).alloc _
    have bN := BoxN.new (((W1.alloc (.cells #[.slice none 0 0] 168)).alloc (.map #[] 0)).alloc (.cells #[.map (some (W1.heap.size + 1))] 201)) 57 e.cells
    simp only [World.size_alloc] at bN
    have hsz : ((((W1.alloc (.cells #[.slice none 0 0] 168)).alloc (.map #[] 0)).alloc (.cells #[.map (some (W1.heap.size + 1))] 201)).alloc (.cells e.cells 57)).heap.size = W1.heap.size + 4 := by simp
    have hlt1 := bE1.lt
    generalize (((W1.alloc (.cells #[.slice none 0 0] 168)).alloc (.map #[] 0)).alloc (.cells #[.map (some (W1.heap.size + 1))] 201)).alloc (.cells e.cells 57) = W0 at *
    have hB0 := hRf0.low
    have hnl := check_len e h0
    have hnin : Hid (∀ y ∈ e.nodes 1, y.2.t.size ≤ 140737488355328) := fun y hy => by
      have := rnodes_in hin y (by rw [rnodes_ok e h0]; exact hy)
      exact this.tlen
    refine wpIn_rangeFunc_ownH rfl h1 (gf := 135) (lb := #[.pointer (some ⟨W1.heap.size + 1 + 1 + 1, 0, none⟩)]) rfl trivial (enters_of Try.func135 (by kernel_rfl) rfl)
      (stops_kt (n - 1) (W1.heap.size + 1 + 1 + 1) w.heap.size e W0 (by omega) (by omega) hnin.out bN.cell (hin.below hB0)) Kt.trans (fun W l o o' _ hl hc _ => Kt.put W l o o' hl hc) (Below.refl _ _) (fun _ => rfl)
      (Rf w W1.heap.size (W1.heap.size + 1) (W1.heap.size + 1 + 1) (W1.heap.size + 4))
      (fun c pre W => False)
      (by rw [hsz]; exact rf_own w _ _ _ _ (by omega) (by omega))
      (fun c => ownFrom_pure _ _)
      hRf0
      (fun x a' W => ∃ Bx, W1.heap.size + 4 ≤ Bx ∧ BoxN W Bx 57 x.1.2.cells ∧ a' = { tmps := #[.agg e.cells, .pointer (some ⟨w.heap.size, 0, none⟩), .slice none 0 0, .int .i64 0, .int .i64 0, .pointer (some ⟨W1.heap.size, 0, none⟩), .pointer (some ⟨W1.heap.size + 1 + 1, 0, none⟩), undef, .pointer (some ⟨Bx, 0, none⟩), undef, undef, .agg e.cells, .int .i64 0, .int .i64 0, .bool false, undef, .map (some (W1.heap.size + 1)), .agg e.cells, .func (.func 135) #[] #[.pointer (some ⟨W1.heap.size + 1 + 1 + 1, 0, none⟩)], .int .i64 x.1.1, x.1.2.val, undef, undef, undef, undef, undef, undef, undef, undef, undef, undef, undef, undef, undef, undef, undef, undef, undef, undef, undef, undef, undef, undef], defers := [] })
      (fun x a' _ X Y row hs hg hr => by obtain ⟨Bx, h1, h2, h3⟩ := hs; exact ⟨Bx, h1, boxN_own Bx 57 (fun (_ : Unit) => x.1.2.cells) () X Y row h2 hg (fun r e => (hr r e).2), h3⟩)
      ?assign ?body ?done ?stop
    case assign =>
      rintro l pre x W K hI hK
      rw [val_eq]
      gi_wp2
      simp only [← cells_eq]
      exact hK _ _ ((KeepsOthers.alloc _ _).from _) (Kt.alloc _ _ _) (hI.alloc _) ⟨W.heap.size, hI.sz, BoxN.new W 57 _, rfl⟩
    case body =>
      rintro l pre x a' W hl ⟨r, hr⟩ hI ⟨Bx, hBx, bX, rfl⟩ hlt
      have cX := bX.cell
      rw [cells_eq] at cX
      have cS := hI.seen.cell
      have hHas := seenD_has (refsN pre) x.1.2.t
      have hrl : (refsN pre).length ≤ 60 := by have := refsN_len pre; omega
      by_cases hk : x.1.2.k = 4
      · have g1 : (x.1.2.k != 4) = false := by simp [hk]
        have hxt : x.1.2.t.size ≤ 140737488355328 := x.2
        have hkey : keyOf Try.prog 9 (.string x.1.2.t) = some (keyS x.1.2.t) := Go.WideMaps.keyOf_string_mk Try.underlying9 (by unfold maxLen; omega)
        have HM : Hid _ := hI.map
        cases hcs : Lib.containsS (refsN pre) x.1.2.t with
        | true =>
          have HI : Hid _ := (hI.alloc (.cells #[] 132)).same (refs_stay_old pre x hcs)
          rw [hcs] at hHas
          have HH : Hid _ := hHas
          clear hHas hcs hI hk
          gi_wp2_with (gi_at_lookup; refine wpListIn_lookup_own_unit _ rfl _ _ 201 rfl 9 132 law9 Try.underlying201 (zero53 _) _ _ _ rfl HM.out _ _ rfl hkey ?_; rw [HH.out])
          exact ⟨(KeepsOthers.alloc _ _).from _, Kt.alloc _ _ _, HI.out⟩
        | false =>
          have hRN : refsN (pre ++ [x]) = refsN pre ++ [x.1.2.t] := refs_new pre x hk hcs
          have HMa : Hid _ := hI.map.alloc (.cells #[] 132)
          have bXa := bX.alloc (.cells #[] 132)
          have cSa := (hI.seen.alloc (.cells #[] 132)).cell
          have cXa := bXa.cell
          rw [cells_eq] at cXa
          rw [hcs] at hHas
          have HH : Hid _ := hHas
          have HIa : Hid _ := hI.alloc (.cells #[] 132)
          clear hHas hcs hI hk
          gi_wp2_with (first
            | (gi_at_lookup; refine wpListIn_lookup_own_unit _ rfl _ _ 201 rfl 9 132 law9 Try.underlying201 (zero53 _) _ _ _ rfl HM.out _ _ rfl hkey ?_; rw [HH.out])
            | (gi_at_mapUpdate; refine wpListIn_mapUpdate_own _ rfl _ _ _ 201 rfl 9 132 law9 Try.underlying201 Go.unitElem _ _ _ rfl HMa.out (by unfold maxLen; omega) _ _ _ rfl rfl hkey (.agg []) [] Go.unitElem_mk ?_; intro w1 hown1 hgrow1; rw [← seenD_snoc] at hown1))
          obtain ⟨v, bv, hv⟩ := HIa.out.names
          obtain ⟨av, cv, rfl⟩ := hv.form
          have hMne : ∀ (b : Nat), b ≠ W1.heap.size + 1 → some b ≠ some (W1.heap.size + 1) := fun _ h e => h (by cases e; rfl)
          have bN1 := bv.kept hgrow1 (hMne _ (by omega))
          have hv1 : Ss w1 (W1.heap.size + 4) (.slice av (refsN pre).length cv) (refsN pre) := by
            refine World.ownsRow.kept hv hgrow1 ?_
            rcases hv.2 with ⟨h1, _⟩ | ⟨g, cap, cur, h1, hb, _⟩
            · rw [h1]; exact .inl rfl
            · rw [h1]; refine .inr (hMne g (by omega))
          have bX1 := bXa.kept hgrow1 (hMne _ (by omega))
          have bS1 := (HIa.out.seen).kept hgrow1 (hMne _ (by omega))
          have hL1 : Below w.heap.size w w1 := HIa.out.low.grown hgrow1 HIa.out.low.size (fun k hk => by cases hk; omega)
          have hK1 : KeepsFrom W0.heap.size W w1 := ((KeepsOthers.alloc W (.cells #[] 132)).from _).trans ⟨hgrow1.size, fun k o hk ho hc => (hgrow1.block k (Array.getElem?_eq_some_iff.1 ho).1 (hMne _ (by omega))).trans ho⟩
          have hT1 : Kt w.heap.size W w1 := (Kt.alloc w.heap.size W (.cells #[] 132)).trans ⟨hgrow1.size, fun k o hk ho hc => (hgrow1.block k (Array.getElem?_eq_some_iff.1 ho).1 (hMne _ (by omega))).trans ho, fun k cs fr ho => (hgrow1.block k (Array.getElem?_eq_some_iff.1 ho).1 (hMne _ (fun e => by
            subst e
            obtain ⟨es, ck, hm, _⟩ := HMa.out
            rw [hm] at ho; cases ho))).trans ho⟩
          have hsz1 : W1.heap.size + 4 ≤ w1.heap.size := Nat.le_trans HIa.out.sz hgrow1.size
          clear bXa cSa cXa HIa HMa HM HH cX cS hgrow1 bv hv bX
          have cN1 := bN1.cell
          have cX1 := bX1.cell
          rw [cells_eq] at cX1
          have hcl := fun w => CallsIn.inRound l (callsIn_wide (n := n - 1 - 1 - 1) |>.2 (clone_any x.1.2.t w hxt))
          have HB3 : Hid (∀ {W3 : World}, Below w1.drew.heap.size w1.drew W3 → Below w1.heap.size w1 W3) := fun h => ⟨h.os, h.tape, h.output, h.size, h.block⟩
          have HV1 : Hid _ := hv1
          have HF : Hid (∀ (W3 w5 : World) (g5 cap5 : Nat), Below w1.heap.size w1 W3 → w5.ownsRow (W1.heap.size + 4) 9 1 (.slice (some ⟨g5, 0, none⟩) ((refsN pre).length + 1) cap5) ((refsN pre).length + 1) (scs (refsN pre) ++ [.string x.1.2.t]) → (W3.alloc (.cells #[.string x.1.2.t] 9)).grownBy w5 (Value.slice av (refsN pre).length cv).ownBlock →
              Boxed w5 W1.heap.size 168 (.slice av (refsN pre).length cv) ∧ KeepsFrom W0.heap.size W (w5.setCell ⟨W1.heap.size, 0, none⟩ (.slice (some ⟨g5, 0, none⟩) ((refsN pre).length + 1) cap5)) ∧ Kt w.heap.size W (w5.setCell ⟨W1.heap.size, 0, none⟩ (.slice (some ⟨g5, 0, none⟩) ((refsN pre).length + 1) cap5)) ∧ Rf w W1.heap.size (W1.heap.size + 1) (W1.heap.size + 1 + 1) (W1.heap.size + 4) (pre ++ [x]) (w5.setCell ⟨W1.heap.size, 0, none⟩ (.slice (some ⟨g5, 0, none⟩) ((refsN pre).length + 1) cap5))) := fun W3 w5 g5 cap5 hW3 hown5 hgrow5 => refs_fin hW3 bN1 hv1 bS1 hown1 hL1 hK1 hT1 hsz1 (by omega) (by omega) hRN hown5 hgrow5
          clear hv1 bS1 hown1 hL1 hK1 hT1 hRN
          refine wpIn_region_any (by kernel_rfl) ?_
          change wpAnyIn _ _ _ _ _ _ _ _ _ (World.drew _)
          refine wpAnyIn_ready (rs := [0, 1]) (by kernel_rfl) (by simp) (AllReadyIn.cons rfl (fun K hK => ?_) (AllReadyIn.cons rfl (fun K hK => ?_) AllReadyIn.nil))
          · go_simp
            refine hK _ _ ?_
            clear hK K
            refine wpAnyIn_ready (rs := [1]) (by kernel_rfl) (by simp) (AllReadyIn.cons rfl (fun K hK => ?_) AllReadyIn.nil)
            go_simp
            refine hK _ _ ?_
            clear hK K
            refine wpAnyIn_ready (rs := [2]) (by kernel_rfl) (by simp) (AllReadyIn.cons rfl (fun K hK => ?_) AllReadyIn.nil)
            go_simp
            refine hK _ _ ?_
            clear hK K
            refine wpAnyIn_ready (rs := [3]) (by kernel_rfl) (by simp) (AllReadyIn.cons rfl (fun K hK => ?_) AllReadyIn.nil)
            go_simp
            gi_wp2_with ((try refine ⟨trivial, hdd _, ?_⟩); gi_at_call 140; refine (hcl _).mono ?_; rintro r W3 ⟨rfl, hb3⟩; have cN3 := (boxed_below bN1 (HB3.out hb3) bN1.lt).cell; have cN4 := ((boxed_below bN1 (HB3.out hb3) bN1.lt).alloc (.cells #[.string x.1.2.t] 9)).cell)
            refine wpAnyIn_ready (rs := [4]) (by kernel_rfl) (by simp) (AllReadyIn.cons rfl (fun K hK => ?_) AllReadyIn.nil)
            go_simp
            refine hK _ _ ?_
            clear hK K
            have hW3 := HB3.out hb3
            refine wpAnyIn_ready (rs := [5]) (by kernel_rfl) (by simp) (AllReadyIn.cons rfl (fun K hK => ?_) AllReadyIn.nil)
            refine stepIn_append _ rfl _ _ 168 rfl (W1.heap.size + 4) 9 i0 _ 1 16 Try.underlying168 hi hz0 hz1 hz2 rfl (by decide) _ _ _ rfl (World.ownsRow.alloc (Ss.below HV1.out hW3) _) ⟨W3.heap.size, 0, none⟩ 1 1 [.string x.1.2.t] rfl rfl ?q1x1 ?q1x2 ?q1x3 ?q1x4 ?q1x5 ?_
            case q1x1 => intro j u hu; match j, hu with | 0, hu => (simp at hu; subst hu; simp [Addr.add])
            case q1x2 => intro u hu; simp at hu; subst hu; rfl
            case q1x3 => unfold maxLen; omega
            case q1x4 => omega
            case q1x5 => have := hW3.size; simp; omega
            intro v5 w5 hown5 hgrow5
            obtain ⟨g5, cap5, rfl, -, -⟩ := World.ownsRow.form hown5 (by omega)
            obtain ⟨q1, q2, q3, q4⟩ := HF.out W3 w5 g5 cap5 hW3 hown5 hgrow5
            refine hK _ _ ?_
            clear hK K hown5 hgrow5
            have cN5 := q1.cell
            have fN5 := q1.frozen
            refine wpAnyIn_ready (rs := [6]) (by kernel_rfl) (by simp) (AllReadyIn.cons rfl (fun K hK => ?_) AllReadyIn.nil)
            go_simp
            refine hK _ _ ?_
            clear hK K
            refine wpAnyIn_done (by kernel_rfl) ?_ _
            exact ⟨q2, q3, q4⟩
          · go_simp
            refine hK _ _ ?_
            clear hK K
            refine wpAnyIn_ready (rs := [0, 2]) (by kernel_rfl) (by simp) (AllReadyIn.cons rfl (fun K hK => ?_) (AllReadyIn.cons rfl (fun K hK => ?_) AllReadyIn.nil))
            · go_simp
              refine hK _ _ ?_
              clear hK K
              refine wpAnyIn_ready (rs := [2]) (by kernel_rfl) (by simp) (AllReadyIn.cons rfl (fun K hK => ?_) AllReadyIn.nil)
              go_simp
              refine hK _ _ ?_
              clear hK K
              refine wpAnyIn_ready (rs := [3]) (by kernel_rfl) (by simp) (AllReadyIn.cons rfl (fun K hK => ?_) AllReadyIn.nil)
              go_simp
              gi_wp2_with ((try refine ⟨trivial, hdd _, ?_⟩); gi_at_call 140; refine (hcl _).mono ?_; rintro r W3 ⟨rfl, hb3⟩; have cN3 := (boxed_below bN1 (HB3.out hb3) bN1.lt).cell; have cN4 := ((boxed_below bN1 (HB3.out hb3) bN1.lt).alloc (.cells #[.string x.1.2.t] 9)).cell)
              refine wpAnyIn_ready (rs := [4]) (by kernel_rfl) (by simp) (AllReadyIn.cons rfl (fun K hK => ?_) AllReadyIn.nil)
              go_simp
              refine hK _ _ ?_
              clear hK K
              have hW3 := HB3.out hb3
              refine wpAnyIn_ready (rs := [5]) (by kernel_rfl) (by simp) (AllReadyIn.cons rfl (fun K hK => ?_) AllReadyIn.nil)
              refine stepIn_append _ rfl _ _ 168 rfl (W1.heap.size + 4) 9 i0 _ 1 16 Try.underlying168 hi hz0 hz1 hz2 rfl (by decide) _ _ _ rfl (World.ownsRow.alloc (Ss.below HV1.out hW3) _) ⟨W3.heap.size, 0, none⟩ 1 1 [.string x.1.2.t] rfl rfl ?q2x1 ?q2x2 ?q2x3 ?q2x4 ?q2x5 ?_
              case q2x1 => intro j u hu; match j, hu with | 0, hu => (simp at hu; subst hu; simp [Addr.add])
              case q2x2 => intro u hu; simp at hu; subst hu; rfl
              case q2x3 => unfold maxLen; omega
              case q2x4 => omega
              case q2x5 => have := hW3.size; simp; omega
              intro v5 w5 hown5 hgrow5
              obtain ⟨g5, cap5, rfl, -, -⟩ := World.ownsRow.form hown5 (by omega)
              obtain ⟨q1, q2, q3, q4⟩ := HF.out W3 w5 g5 cap5 hW3 hown5 hgrow5
              refine hK _ _ ?_
              clear hK K hown5 hgrow5
              have cN5 := q1.cell
              have fN5 := q1.frozen
              refine wpAnyIn_ready (rs := [6]) (by kernel_rfl) (by simp) (AllReadyIn.cons rfl (fun K hK => ?_) AllReadyIn.nil)
              go_simp
              refine hK _ _ ?_
              clear hK K
              refine wpAnyIn_done (by kernel_rfl) ?_ _
              exact ⟨q2, q3, q4⟩
            · go_simp
              refine hK _ _ ?_
              clear hK K
              refine wpAnyIn_ready (rs := [0, 3]) (by kernel_rfl) (by simp) (AllReadyIn.cons rfl (fun K hK => ?_) (AllReadyIn.cons rfl (fun K hK => ?_) AllReadyIn.nil))
              · go_simp
                refine hK _ _ ?_
                clear hK K
                refine wpAnyIn_ready (rs := [3]) (by kernel_rfl) (by simp) (AllReadyIn.cons rfl (fun K hK => ?_) AllReadyIn.nil)
                go_simp
                gi_wp2_with ((try refine ⟨trivial, hdd _, ?_⟩); gi_at_call 140; refine (hcl _).mono ?_; rintro r W3 ⟨rfl, hb3⟩; have cN3 := (boxed_below bN1 (HB3.out hb3) bN1.lt).cell; have cN4 := ((boxed_below bN1 (HB3.out hb3) bN1.lt).alloc (.cells #[.string x.1.2.t] 9)).cell)
                refine wpAnyIn_ready (rs := [4]) (by kernel_rfl) (by simp) (AllReadyIn.cons rfl (fun K hK => ?_) AllReadyIn.nil)
                go_simp
                refine hK _ _ ?_
                clear hK K
                have hW3 := HB3.out hb3
                refine wpAnyIn_ready (rs := [5]) (by kernel_rfl) (by simp) (AllReadyIn.cons rfl (fun K hK => ?_) AllReadyIn.nil)
                refine stepIn_append _ rfl _ _ 168 rfl (W1.heap.size + 4) 9 i0 _ 1 16 Try.underlying168 hi hz0 hz1 hz2 rfl (by decide) _ _ _ rfl (World.ownsRow.alloc (Ss.below HV1.out hW3) _) ⟨W3.heap.size, 0, none⟩ 1 1 [.string x.1.2.t] rfl rfl ?q3x1 ?q3x2 ?q3x3 ?q3x4 ?q3x5 ?_
                case q3x1 => intro j u hu; match j, hu with | 0, hu => (simp at hu; subst hu; simp [Addr.add])
                case q3x2 => intro u hu; simp at hu; subst hu; rfl
                case q3x3 => unfold maxLen; omega
                case q3x4 => omega
                case q3x5 => have := hW3.size; simp; omega
                intro v5 w5 hown5 hgrow5
                obtain ⟨g5, cap5, rfl, -, -⟩ := World.ownsRow.form hown5 (by omega)
                obtain ⟨q1, q2, q3, q4⟩ := HF.out W3 w5 g5 cap5 hW3 hown5 hgrow5
                refine hK _ _ ?_
                clear hK K hown5 hgrow5
                have cN5 := q1.cell
                have fN5 := q1.frozen
                refine wpAnyIn_ready (rs := [6]) (by kernel_rfl) (by simp) (AllReadyIn.cons rfl (fun K hK => ?_) AllReadyIn.nil)
                go_simp
                refine hK _ _ ?_
                clear hK K
                refine wpAnyIn_done (by kernel_rfl) ?_ _
                exact ⟨q2, q3, q4⟩
              · go_simp
                gi_wp2_with ((try refine ⟨trivial, hdd _, ?_⟩); gi_at_call 140; refine (hcl _).mono ?_; rintro r W3 ⟨rfl, hb3⟩; have cN3 := (boxed_below bN1 (HB3.out hb3) bN1.lt).cell; have cN4 := ((boxed_below bN1 (HB3.out hb3) bN1.lt).alloc (.cells #[.string x.1.2.t] 9)).cell)
                refine wpAnyIn_ready (rs := [0, 4]) (by kernel_rfl) (by simp) (AllReadyIn.cons rfl (fun K hK => ?_) (AllReadyIn.cons rfl (fun K hK => ?_) AllReadyIn.nil))
                · go_simp
                  refine hK _ _ ?_
                  clear hK K
                  refine wpAnyIn_ready (rs := [4]) (by kernel_rfl) (by simp) (AllReadyIn.cons rfl (fun K hK => ?_) AllReadyIn.nil)
                  go_simp
                  refine hK _ _ ?_
                  clear hK K
                  have hW3 := HB3.out hb3
                  refine wpAnyIn_ready (rs := [5]) (by kernel_rfl) (by simp) (AllReadyIn.cons rfl (fun K hK => ?_) AllReadyIn.nil)
                  refine stepIn_append _ rfl _ _ 168 rfl (W1.heap.size + 4) 9 i0 _ 1 16 Try.underlying168 hi hz0 hz1 hz2 rfl (by decide) _ _ _ rfl (World.ownsRow.alloc (Ss.below HV1.out hW3) _) ⟨W3.heap.size, 0, none⟩ 1 1 [.string x.1.2.t] rfl rfl ?q4x1 ?q4x2 ?q4x3 ?q4x4 ?q4x5 ?_
                  case q4x1 => intro j u hu; match j, hu with | 0, hu => (simp at hu; subst hu; simp [Addr.add])
                  case q4x2 => intro u hu; simp at hu; subst hu; rfl
                  case q4x3 => unfold maxLen; omega
                  case q4x4 => omega
                  case q4x5 => have := hW3.size; simp; omega
                  intro v5 w5 hown5 hgrow5
                  obtain ⟨g5, cap5, rfl, -, -⟩ := World.ownsRow.form hown5 (by omega)
                  obtain ⟨q1, q2, q3, q4⟩ := HF.out W3 w5 g5 cap5 hW3 hown5 hgrow5
                  refine hK _ _ ?_
                  clear hK K hown5 hgrow5
                  have cN5 := q1.cell
                  have fN5 := q1.frozen
                  refine wpAnyIn_ready (rs := [6]) (by kernel_rfl) (by simp) (AllReadyIn.cons rfl (fun K hK => ?_) AllReadyIn.nil)
                  go_simp
                  refine hK _ _ ?_
                  clear hK K
                  refine wpAnyIn_done (by kernel_rfl) ?_ _
                  exact ⟨q2, q3, q4⟩
                · go_simp
                  refine hK _ _ ?_
                  clear hK K
                  refine wpAnyIn_ready (rs := [0]) (by kernel_rfl) (by simp) (AllReadyIn.cons rfl (fun K hK => ?_) AllReadyIn.nil)
                  go_simp
                  refine hK _ _ ?_
                  clear hK K
                  have hW3 := HB3.out hb3
                  refine wpAnyIn_ready (rs := [5]) (by kernel_rfl) (by simp) (AllReadyIn.cons rfl (fun K hK => ?_) AllReadyIn.nil)
                  refine stepIn_append _ rfl _ _ 168 rfl (W1.heap.size + 4) 9 i0 _ 1 16 Try.underlying168 hi hz0 hz1 hz2 rfl (by decide) _ _ _ rfl (World.ownsRow.alloc (Ss.below HV1.out hW3) _) ⟨W3.heap.size, 0, none⟩ 1 1 [.string x.1.2.t] rfl rfl ?q5x1 ?q5x2 ?q5x3 ?q5x4 ?q5x5 ?_
                  case q5x1 => intro j u hu; match j, hu with | 0, hu => (simp at hu; subst hu; simp [Addr.add])
                  case q5x2 => intro u hu; simp at hu; subst hu; rfl
                  case q5x3 => unfold maxLen; omega
                  case q5x4 => omega
                  case q5x5 => have := hW3.size; simp; omega
                  intro v5 w5 hown5 hgrow5
                  obtain ⟨g5, cap5, rfl, -, -⟩ := World.ownsRow.form hown5 (by omega)
                  obtain ⟨q1, q2, q3, q4⟩ := HF.out W3 w5 g5 cap5 hW3 hown5 hgrow5
                  refine hK _ _ ?_
                  clear hK K hown5 hgrow5
                  have cN5 := q1.cell
                  have fN5 := q1.frozen
                  refine wpAnyIn_ready (rs := [6]) (by kernel_rfl) (by simp) (AllReadyIn.cons rfl (fun K hK => ?_) AllReadyIn.nil)
                  go_simp
                  refine hK _ _ ?_
                  clear hK K
                  refine wpAnyIn_done (by kernel_rfl) ?_ _
                  exact ⟨q2, q3, q4⟩
      · have g1 : (x.1.2.k != 4) = true := by simpa using hk
        have HI : Hid _ := hI.same (refs_stay_kind pre x hk)
        clear hk hI
        gi_wp2
        exact ⟨(KeepsOthers.refl _).from _, Kt.refl _ _, HI.out⟩
    case done =>
      rintro D zs W hD hzs hI hK
      obtain ⟨v, bv, hv⟩ := hI.names
      have cC := bv.cell
      obtain ⟨av, cv, rfl⟩ := hv.form
      gi_wp2
      refine ⟨by simp, .inl ⟨_, _, rfl, run_takeDeferred hK, ?_⟩⟩
      have hv2 : refsR e = refsN zs := by unfold refsR refsN; rw [if_pos h0, hzs]
      have hbk := belowK_b (w := w) (Nat.le_refl _) W D (.deferred (some [])) (.deferred none) (by omega) hK rfl rfl
      refine ⟨.tuple #[.slice av (refsN zs).length cv, .int .i64 0], ?_, _, rfl, ?_, hI.low.trans hbk⟩
      · simp [results, Try.f117, go_sem]
      · rw [← HS.out, hv2]
        exact Ss.mono (ownsRow_putObj hv _ hK rfl) (by omega)
    case stop =>
      rintro D c pre W hD hpre h hK
      exact h.elim
  · have g : (check e != 0) = true := by simpa using h0
    gi_wp2_with ((try refine ⟨trivial, ?_⟩); gi_at_call 86; refine hcheck.mono ?_; rintro r W1 ⟨rfl, hb1⟩; simp only [← cells_eq] at hb1)
    have hv : R = [] := by rw [← HS.out]; unfold refsR; rw [if_neg h0]
    subst hv
    refine ⟨.tuple #[.slice none 0 0, .int .i64 (check e)], ?_, _, rfl, World.ownsRow_nil _ _ _ _, (HE.out hb1).2⟩
    simp [results, Try.f117, go_sem]
theorem refs_any (e : Ex) (w : World) (hin : e.In w.heap.size w) :
    Calls Try.prog 117 #[e.val] w fun r W' => ∃ v, r = .returned (.tuple #[v, .int .i64 (check e)]) ∧ Ss W' w.heap.size v (refsR e) ∧ Below w.heap.size w W' := callsIn_wide.1 (refs_in 4 (Nat.le_refl _) e w hin)
end Go.Proofs.Ytokdaapmejccbaa
