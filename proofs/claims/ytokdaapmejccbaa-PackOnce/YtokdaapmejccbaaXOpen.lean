import Derived.Test.YtokdaapmejccbaaXEq
import Derived.ProofKit
import Derived.OpenShut
import Derived.ShutString
import Derived.ChangeOld
import Derived.Below
import Derived.Carry
import Derived.Deep.Slices
import Derived.SizedLaws
import Derived.Laws.IdiomArrays
namespace Go.Proofs.Ytokdaapmejccbaa
open Go.ChangeShapes Go.WideShapes Go.ChangeAt Go.RowKit
open Ex.In (InL)
theorem Try.cells52 : Try.prog.cellsOf 52 = 1 := by kernel_rfl
theorem Try.cells54 : Try.prog.cellsOf 54 = 4 := by kernel_rfl
theorem Try.cells55 : Try.prog.cellsOf 55 = 1 := by kernel_rfl
theorem Try.cells57 : Try.prog.cellsOf 57 = 7 := by kernel_rfl
theorem Try.cells3 : Try.prog.cellsOf 3 = 1 := by kernel_rfl
theorem Try.cells9 : Try.prog.cellsOf 9 = 1 := by kernel_rfl
theorem Try.bytes57 : Try.prog.bytesOf 57 = 80 := by kernel_rfl
theorem Try.laidOut : laidOutB Try.prog = true := by kernel_rfl
theorem list_of {α : Type} {p : Nat → α → Prop} : ∀ (n : Nat), (∀ i, i < n → ∃ x, p i x) → ∃ l : List α, l.length = n ∧ ∀ i x, l[i]? = some x → p i x
  | 0, _ => ⟨[], rfl, fun i x h => by simp at h⟩
  | n + 1, h => by
    obtain ⟨l, hl, hp⟩ := list_of n fun i hi => h i (by omega)
    obtain ⟨x, hx⟩ := h n (by omega)
    refine ⟨l ++ [x], by simp [hl], fun i y hy => ?_⟩
    by_cases hi : i < n
    · rw [List.getElem?_append_left (by omega)] at hy
      exact hp i y hy
    · rw [List.getElem?_append_right (by omega)] at hy
      have : i - l.length = 0 := by
        have := (List.getElem?_eq_some_iff.1 hy).1
        simp at this; omega
      rw [this] at hy
      simp at hy
      subst hy
      rw [show i = n from by omega]
      exact hx
theorem inL_of {n : Nat} {W : World} {a : Option Addr} : ∀ (l : List Ex) (i : Nat), (∀ j x, l[j]? = some x → (∃ b o, a = some ⟨b, o, none⟩ ∧ b < n ∧ ∀ m, m < 7 → W.cell? ⟨b, o + (i + j) * 7 + m, none⟩ = x.cells[m]?) ∧ Ex.In n W x) → InL n W a i l
  | [], _, _ => by rw [InL]; trivial
  | e :: r, i, h => by
    rw [InL]
    have h0 := h 0 e rfl
    refine ⟨h0.1, h0.2, inL_of r (i + 1) fun j x hx => ?_⟩
    have := h (j + 1) x hx
    rwa [show i + (j + 1) = i + 1 + j from by omega] at this
theorem add_add (a : Addr) (i j : Nat) : (a.add i).add j = a.add (i + j) := Go.Deep.add_add a i j
theorem reach47 : reachBytes ≤ 140737488355328 := by decide
theorem list7 {α : Type} (l : List α) (h : l.length = 7) : ∃ a b c d e f g, l = [a, b, c, d, e, f, g] := by
  match l, h with
  | [a, b, c, d, e, f, g], _ => exact ⟨a, b, c, d, e, f, g, rfl⟩
theorem list4 {α : Type} (l : List α) (h : l.length = 4) : ∃ a b c d, l = [a, b, c, d] := by
  match l, h with
  | [a, b, c, d], _ => exact ⟨a, b, c, d, rfl⟩
theorem weightsAll_mem {H : Type} {P : Program} {e : TypeId} : ∀ (l : List (DataW H)) (d : DataW H), d ∈ l → ∀ n ∈ d.weights P e, n ∈ DataW.weightsAll P e l
  | a :: r, d, h, n, hn => by
    rw [DataW.weightsAll, List.mem_append]
    rcases List.mem_cons.1 h with rfl | h
    · exact .inl hn
    · exact .inr (weightsAll_mem r d h n hn)
set_option maxHeartbeats 1000000 in
/-- An expression that came in: where it lies. -/
theorem open_cells {H : Type} {enc : TypeId × Value → H} {w : World} : ∀ (fuel : Nat) (cs : List Value) (x : DataW H × List MemPlace), DataW.trod enc Try.prog w 0 (fun _ => true) true fuel 57 cs = some x →
    (∀ n ∈ x.1.weights Try.prog 57, n ≤ reachBytes) → ∃ e : Ex, cs = e.cells.toList ∧ e.In w.heap.size w := by
  intro fuel
  induction fuel using Nat.strongRecOn with
  | ind fuel ih =>
    intro cs x h hwt
    obtain ⟨xs, n, rfl, rfl, hlen, hxs, hf⟩ := DataW.trod_struct Try.underlying57 h
    rw [Try.cells57] at hlen
    obtain ⟨x0, x1, x2, x3, rfl⟩ := list4 xs hxs
    obtain ⟨c0, c1, c2, c3, c4, c5, c6, rfl⟩ := list7 cs hlen
    have f0 : DataW.trod enc Try.prog w 0 (fun _ => true) true n 3 [c0] = some x0 := by have := hf 0 _ rfl; simpa [Try.cells3] using this
    have f1 : DataW.trod enc Try.prog w 0 (fun _ => true) true n 54 [c1, c2, c3, c4] = some x1 := by have := hf 1 _ rfl; simpa [Try.cells54] using this
    have f2 : DataW.trod enc Try.prog w 0 (fun _ => true) true n 9 [c5] = some x2 := by have := hf 2 _ rfl; simpa [Try.cells9] using this
    have f3 : DataW.trod enc Try.prog w 0 (fun _ => true) true n 55 [c6] = some x3 := by have := hf 3 _ rfl; simpa [Try.cells55] using this
    clear hf h hlen hxs
    obtain ⟨k, e0, rfl, w0⟩ := DataW.trod_int Try.underlying3 f0
    obtain ⟨y0, y1, y2, y3, m, hx1, hy0, hy1, hy2, hy3⟩ := trod_array4 Try.underlying54 Try.cells52 f1
    obtain ⟨z0, g0, rfl, v0⟩ := DataW.trod_int Try.underlying52 hy0
    obtain ⟨z1, g1, rfl, v1⟩ := DataW.trod_int Try.underlying52 hy1
    obtain ⟨z2, g2, rfl, v2⟩ := DataW.trod_int Try.underlying52 hy2
    obtain ⟨z3, g3, rfl, v3⟩ := DataW.trod_int Try.underlying52 hy3
    obtain ⟨t, e2, rfl, w2⟩ := DataW.trod_string Try.underlying9 f2
    simp at e0 g0 g1 g2 g3 e2
    subst e0 g0 g1 g2 g3 e2
    have b0 := bounds_u64 v0
    have b1 := bounds_u64 v1
    have b2 := bounds_u64 v2
    have b3 := bounds_u64 v3
    obtain ⟨q0, q1, q2, q3⟩ := ofW_wd z0 z1 z2 z3 (by omega) (by omega) (by omega) (by omega)
    have ht : t.size ≤ 140737488355328 := by
      refine Nat.le_trans (hwt t.data.toList.length ?_) reach47
      simp [DataW.weights, Try.underlying57, DataW.weightsEach]
    rcases DataW.trod_slice Try.underlying55 f3 with ⟨h3, rfl⟩ | ⟨a, len, cap, elems, rest, n', rfl, h3, rfl, hb, hl, hm, hlen, hel, _, _⟩
    · simp at h3
      subst h3
      refine ⟨.mk k (ofW z0 z1 z2 z3) t none 0 [], ?_, ?_⟩
      · simp [Ex.cells, Ex.k, Ex.S, Ex.t, Ex.a, Ex.c, Ex.kids, q0, q1, q2, q3]
      · rw [Ex.In, InL]
        exact ⟨⟨by simp, ht⟩, trivial⟩
    · simp at h3
      subst h3
      have hlw : len ≤ 140737488355328 := by
        have h1 := hwt ((elems.length + rest.length) * 80) (by simp [DataW.weights, Try.underlying57, Try.underlying55, DataW.weightsEach, Try.bytes57])
        have := reach47
        omega
      have hkid : ∀ i, i < len → ∃ e : Ex, w.cells? 0 (a.add (i * 7)) 7 = some e.cells.toList ∧ e.In w.heap.size w := by
        intro i hi
        have h1 := hel i hi
        rw [Try.cells57, List.getElem?_eq_getElem (by omega)] at h1
        obtain ⟨cs', h2, h3⟩ := Option.bind_eq_some_iff.1 h1
        obtain ⟨e, he, hin⟩ := ih n' (by omega) cs' _ h3 fun m hm => hwt m (by
          have hmem : (elems[i]'(by omega)).1 ∈ elems.map (·.1) := List.mem_map.2 ⟨_, List.getElem_mem (by omega), rfl⟩
          have := weightsAll_mem (P := Try.prog) (e := 57) _ _ hmem m hm
          simp only [DataW.weights, Try.underlying57, Try.underlying55, DataW.weightsEach, List.map_cons, List.map_nil, List.mem_append, List.mem_cons]
          simp [this])
        exact ⟨e, by rw [h2, he], hin⟩
      obtain ⟨l, hll, hp⟩ := list_of len hkid
      refine ⟨.mk k (ofW z0 z1 z2 z3) t (some a) cap l, ?_, ?_⟩
      · simp [Ex.cells, Ex.k, Ex.S, Ex.t, Ex.a, Ex.c, Ex.kids, q0, q1, q2, q3, hll]
      · rw [Ex.In]
        refine ⟨⟨by omega, ht⟩, inL_of l 0 fun j y hy => ?_⟩
        obtain ⟨h1, h2⟩ := hp j y hy
        refine ⟨?_, h2⟩
        have hblk := World.cells?_block h1 (by omega)
        obtain ⟨_, _, hc⟩ := World.cells?_some h1
        have hspot : a.spot = none := by
          have hj0 : 0 < len := by
            have := (List.getElem?_eq_some_iff.1 hy).1
            omega
          obtain ⟨e0, h10, _⟩ := hkid 0 hj0
          obtain ⟨_, _, hc0⟩ := World.cells?_some h10
          have := hc0 0 (by omega)
          simp [Addr.add] at this
          exact World.cell?_spot this
        obtain ⟨b, o, sp⟩ := a
        simp at hspot
        subst hspot
        refine ⟨b, o, rfl, by simpa [Addr.add, apply_ite Addr.block] using hblk, fun m hm => ?_⟩
        have := hc m hm
        rw [Array.getElem?_toList] at this
        rw [← this, add_add]
        by_cases h5 : j * 7 + m = 0
        · rw [show o + (0 + j) * 7 + m = o from by omega, h5]; rfl
        · rw [Addr.add, if_neg h5, show o + (0 + j) * 7 + m = o + (j * 7 + m) from by omega]
set_option maxRecDepth 20000 in
/-- An argument that is an expression. -/
theorem open_ex {H : Type} {enc : TypeId × Value → H} {w : World} {b0 : Nat} {r : Reach} {v : Value} {d : DataW H} {ps : List MemPlace} (hval : Value.okWide Try.prog w r b0 57 v)
    (hd : DataW.Trod enc Try.prog w 0 (fun _ => true) true 57 v d ps) (hwt : ∀ n ∈ d.weights Try.prog 57, n ≤ reachBytes) : ∃ e : Ex, v = e.val ∧ e.In w.heap.size w := by
  obtain ⟨cs, rfl, hsz, _⟩ : ∃ cs, v = .agg cs ∧ cs.size = Try.prog.cellsOf 57 ∧ Row.okWide Try.prog w r b0 57 cs := by
    simpa [Value.okWide, Try.underlying57] using hval
  obtain ⟨fuel, hf⟩ := hd
  obtain ⟨e, he, hin⟩ := open_cells fuel _ _ hf hwt
  refine ⟨e, ?_, hin⟩
  unfold Ex.val
  congr 1
  exact Array.ext' (by simpa [Value.cells] using he)
end Go.Proofs.Ytokdaapmejccbaa
