import Derived.Test.YtokdaapmejccbaaXOpen
import Derived.Test.YtokdaapmejccbaaXGChkA
namespace Go.Proofs.Ytokdaapmejccbaa
open Go.ChangeShapes Go.WideShapes Go.ChangeAt Go.RowKit
theorem Try.cells76 : Try.prog.cellsOf 76 = 8 := by kernel_rfl
theorem Try.cells22 : Try.prog.cellsOf 22 = 1 := by kernel_rfl
theorem Try.bytes76 : Try.prog.bytesOf 76 = 96 := by kernel_rfl
theorem Try.cells24 : Try.prog.cellsOf 24 = 1 := by kernel_rfl
theorem list2 {α : Type} (l : List α) (h : l.length = 2) : ∃ a b, l = [a, b] := by
  match l, h with
  | [a, b], _ => exact ⟨a, b, rfl⟩
theorem list1 {α : Type} (l : List α) (h : l.length = 1) : ∃ a, l = [a] := by
  match l, h with
  | [a], _ => exact ⟨a, rfl⟩
theorem list8 {α : Type} (l : List α) (h : l.length = 8) : ∃ a b c d e f g i, l = [a, b, c, d, e, f, g, i] := by
  match l, h with
  | [a, b, c, d, e, f, g, i], _ => exact ⟨a, b, c, d, e, f, g, i, rfl⟩
set_option maxRecDepth 20000 in
set_option maxHeartbeats 1000000 in
/-- A rule that came in. -/
theorem open_rule {H : Type} {enc : TypeId × Value → H} {w : World} (fuel : Nat) (cs : List Value) (x : DataW H × List MemPlace) (h : DataW.trod enc Try.prog w 0 (fun _ => true) true fuel 76 cs = some x)
    (hwt : ∀ n ∈ x.1.weights Try.prog 76, n ≤ reachBytes) : ∃ r : ByteArray × Ex, cs = rcell r ∧ r.1.size ≤ 140737488355328 ∧ r.2.In w.heap.size w := by
  obtain ⟨xs, n, rfl, rfl, hlen, hxs, hf⟩ := DataW.trod_struct Try.underlying76 h
  rw [Try.cells76] at hlen
  obtain ⟨x0, x1, rfl⟩ := list2 xs hxs
  obtain ⟨c0, c1, c2, c3, c4, c5, c6, c7, rfl⟩ := list8 cs hlen
  have f0 : DataW.trod enc Try.prog w 0 (fun _ => true) true n 9 [c0] = some x0 := by have := hf 0 _ rfl; simpa [Try.cells9] using this
  have f1 : DataW.trod enc Try.prog w 0 (fun _ => true) true n 57 [c1, c2, c3, c4, c5, c6, c7] = some x1 := by have := hf 1 _ rfl; simpa [Try.cells57, Try.cells9] using this
  clear hf h hlen hxs
  obtain ⟨t, e2, rfl, w2⟩ := DataW.trod_string Try.underlying9 f0
  simp at e2
  subst e2
  have ht : t.size ≤ 140737488355328 := by
    refine Nat.le_trans (hwt t.data.toList.length ?_) reach47
    simp [DataW.weights, Try.underlying76, DataW.weightsEach]
  obtain ⟨e, he, hin⟩ := open_cells n _ _ f1 fun m hm => hwt m (by
    simp only [DataW.weights, Try.underlying76, DataW.weightsEach, List.map_cons, List.map_nil, List.mem_append, List.mem_cons]
    simp [hm])
  refine ⟨(t, e), ?_, ht, hin⟩
  rw [he]; rfl
set_option maxRecDepth 20000 in
set_option maxHeartbeats 1000000 in
/-- An argument that is a grammar. -/
theorem open_gr {H : Type} {enc : TypeId × Value → H} {w : World} {b0 : Nat} {r : Reach} {v : Value} {d : DataW H} {ps : List MemPlace} (hval : Value.okWide Try.prog w r b0 24 v)
    (hd : DataW.Trod enc Try.prog w 0 (fun _ => true) true 24 v d ps) (hwt : ∀ n ∈ d.weights Try.prog 24, n ≤ reachBytes) : ∃ g : Gr, v = g.val ∧ g.In w.heap.size w := by
  obtain ⟨cs, rfl, hsz, _⟩ : ∃ cs, v = .agg cs ∧ cs.size = Try.prog.cellsOf 24 ∧ Row.okWide Try.prog w r b0 24 cs := by
    simpa [Value.okWide, Try.underlying24] using hval
  obtain ⟨fuel, hf⟩ := hd
  obtain ⟨xs, n, hn, hx, hlen, hxs, hf⟩ := DataW.trod_struct Try.underlying24 hf
  obtain ⟨x0, rfl⟩ := list1 xs hxs
  have hcs : ∃ c, cs = #[c] := by
    obtain ⟨c, hc⟩ := list1 cs.toList (by rw [Try.cells24] at hsz; simpa using hsz)
    exact ⟨c, Array.ext' (by simpa using hc)⟩
  obtain ⟨c, rfl⟩ := hcs
  have f3 : DataW.trod enc Try.prog w 0 (fun _ => true) true n 22 [c] = some x0 := by have := hf 0 _ rfl; simpa [Try.cells22, Value.cells] using this
  have hd' : d = .agg [x0.1] := by simpa using congrArg Prod.fst hx
  subst hd'
  clear hf hlen hxs hx
  rcases DataW.trod_slice Try.underlying22 f3 with ⟨h3, rfl⟩ | ⟨a, len, cap, elems, rest, n', rfl, h3, rfl, hb, hl, hm, hlen, hel, _, _⟩
  · simp at h3
    subst h3
    exact ⟨⟨none, 0, []⟩, rfl, by simp, fun j r h => by simp at h⟩
  · simp at h3
    subst h3
    have hlw : len ≤ 140737488355328 := by
      have h1 := hwt ((elems.length + rest.length) * 96) (by simp [DataW.weights, Try.underlying24, Try.underlying22, DataW.weightsEach, Try.bytes76])
      have := reach47
      omega
    have hkid : ∀ i, i < len → ∃ r : ByteArray × Ex, w.cells? 0 (a.add (i * 8)) 8 = some (rcell r) ∧ r.1.size ≤ 140737488355328 ∧ r.2.In w.heap.size w := by
      intro i hi
      have h1 := hel i hi
      rw [Try.cells76, List.getElem?_eq_getElem (by omega)] at h1
      obtain ⟨cs', h2, h3⟩ := Option.bind_eq_some_iff.1 h1
      obtain ⟨e, he, hin⟩ := open_rule n' cs' _ h3 fun m hm => hwt m (by
        have hmem : (elems[i]'(by omega)).1 ∈ elems.map (·.1) := List.mem_map.2 ⟨_, List.getElem_mem (by omega), rfl⟩
        have := weightsAll_mem (P := Try.prog) (e := 76) _ _ hmem m hm
        simp only [DataW.weights, Try.underlying24, Try.underlying22, DataW.weightsEach, List.map_cons, List.map_nil, List.mem_append, List.mem_cons]
        simp [this])
      exact ⟨e, by rw [h2, he], hin⟩
    obtain ⟨l, hll, hp⟩ := list_of len hkid
    refine ⟨⟨some a, cap, l⟩, ?_, ?_⟩
    · unfold Gr.val; simp [hll]
    · refine ⟨by show l.length ≤ _; omega, fun j y hy => ?_⟩
      obtain ⟨h1, h2, h4⟩ := hp j y hy
      refine ⟨?_, h2, h4⟩
      have hblk := World.cells?_block h1 (by omega)
      obtain ⟨_, _, hc⟩ := World.cells?_some h1
      have hspot : a.spot = none := by
        have hj0 : 0 < len := by
          have := (List.getElem?_eq_some_iff.1 hy).1
          have : j < l.length := this
          omega
        obtain ⟨e0, h10, _⟩ := hkid 0 hj0
        obtain ⟨_, _, hc0⟩ := World.cells?_some h10
        have := hc0 0 (by omega)
        simp [Addr.add] at this
        exact World.cell?_spot this
      obtain ⟨b, o, sp⟩ := a
      simp at hspot
      subst hspot
      refine ⟨b, o, rfl, by simpa [Addr.add, apply_ite Addr.block] using hblk, fun m hm => ?_⟩
      have := hc m hm
      rw [← this, add_add]
      by_cases h5 : j * 8 + m = 0
      · rw [show o + j * 8 + m = o from by omega, h5]; rfl
      · rw [Addr.add, if_neg h5, show o + j * 8 + m = o + (j * 8 + m) from by omega]
end Go.Proofs.Ytokdaapmejccbaa
