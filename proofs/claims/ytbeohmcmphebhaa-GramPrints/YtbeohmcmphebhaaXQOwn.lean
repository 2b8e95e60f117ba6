import Derived.Test.YtbeohmcmphebhaaXQText
import Derived.Test.YtbeohmcmphebhaaProg
import Derived.WalkKit
import Derived.WalkSpells
import Derived.WalkLawsBesides
import Derived.Laws.IdiomStrings
import Derived.Laws.BytesArg
import Derived.Lib.AppendStr
namespace Go.Proofs.Ytbeohmcmphebhaa
open Go.RowKit
theorem ownsRow_below {w w' : World} {base : Nat} {e : TypeId} {size : Nat} {v : Value} {n : Nat} {xs : List Value} (h : w.ownsRow base e size v n xs) (hb : Below w.heap.size w w') : w'.ownsRow base e size v n xs := by
  obtain ⟨h1, h2⟩ := h
  refine ⟨h1, ?_⟩
  rcases h2 with h2 | ⟨g, cap, cur, hv, hg, hh, r⟩
  · exact Or.inl h2
  · refine Or.inr ⟨g, cap, cur, hv, hg, ?_, r⟩
    have hlt : g < w.heap.size := by
      rcases Nat.lt_or_ge g w.heap.size with h1 | h1
      · exact h1
      · rw [Array.getElem?_eq_none h1] at hh; cases hh
    rw [hb.block g hlt]; exact hh
/-- A slice of bytes of the call's own, made into a text. -/
theorem conv_own {P : Program} {w : World} {base : Nat} {e src dst : TypeId} {v : Value} {n : Nat} {l : List UInt8} (hs : P.underlying src = some (.slice e)) (he : P.underlying e = some (.int .u8)) (hd : P.underlying dst = some .string)
    (h : w.ownsRow base e 1 v n (l.map fun b => Value.int .u8 (b.toNat : Int))) : (convert src dst v).run P w = .ok (.string ⟨l.toArray⟩) w := by
  obtain ⟨h1, h2⟩ := h
  simp only [List.length_map, Nat.mul_one] at h1
  rcases h2 with ⟨rfl, h2⟩ | ⟨g, cap, cur, rfl, hg, hh, hn, hm, hsz, hc⟩
  · rw [run_convert_bytes_nil w src e hs he 0 0 dst hd]
    have : l = [] := List.length_eq_zero_iff.1 (by omega)
    subst this; rfl
  · rw [← h1]
    apply run_convert_bytes_back w src dst e ⟨g, 0, none⟩ cap l hs he hd
    intro j hj
    simp only [Nat.mul_one] at hc hsz
    rw [Addr.add_lit, Nat.zero_add]
    simp only [World.cell?, hh]
    have e2 := congrArg (fun q => q[j]?) hc
    simp only [List.getElem?_map] at e2
    rw [List.getElem?_take_of_lt (by omega), List.getElem?_eq_getElem hj] at e2
    simpa using e2
/-- A list of bytes as cells. -/
def bcs (l : List UInt8) : List Value := l.map fun b => Value.int .u8 (b.toNat : Int)
theorem bcs_app (l m : List UInt8) : bcs (l ++ m) = bcs l ++ bcs m := by simp [bcs]
/-- A slice of bytes of the call's own that holds l. -/
def Holds (w : World) (base : Nat) (v : Value) (l : List UInt8) : Prop := w.ownsRow base 5 1 v l.length (bcs l)
theorem Holds.below {w w' : World} {base : Nat} {v : Value} {l : List UInt8} (h : Holds w base v l) (hb : Below w.heap.size w w') : Holds w' base v l := ownsRow_below h hb
theorem Holds.conv {w : World} {base : Nat} {v : Value} {l : List UInt8} (h : Holds w base v l) : (convert 61 9 v).run Try.prog w = .ok (.string ⟨l.toArray⟩) w :=
  conv_own Try.underlying61 Try.underlying5 Try.underlying9 h
theorem Try.info5 : (Try.prog.info? 5).map (fun i => (i.zero, i.size, i.bytes)) = some (some (.int .u8 0), 1, 1) := by kernel_rfl
/-- An earlier world, a later one, and that the row of v was alone turned. -/
theorem grown_trans {w w1 w2 : World} {row row' : Option Nat} (h : w.grownBy w1 row) (h2 : w1.grownBy w2 row') (hr : ∀ k, row' = some k → k < w.heap.size → row = some k) : w.grownBy w2 row :=
  ⟨h2.os.trans h.os, h2.tape.trans h.tape, h2.output.trans h.output, Nat.le_trans h.size h2.size, fun k hk hne => by
    rw [h2.block k (Nat.lt_of_lt_of_le hk h.size) (fun e => hne (by rw [hr k e.symm hk])), h.block k hk hne]⟩
theorem grown_alloc {w w2 : World} {row : Option Nat} (o : Obj) (h : (w.alloc o).grownBy w2 row) : w.grownBy w2 row :=
  ⟨h.os, h.tape, h.output, Nat.le_trans (by simp) h.size, fun k hk hne => by
    rw [h.block k (by simp; omega) hne]; exact Below.heap_alloc w o k hk⟩
theorem grown_drew {w w2 : World} {row : Option Nat} (h : w.drew.grownBy w2 row) : w.grownBy w2 row := ⟨h.os, h.tape, h.output, h.size, h.block⟩
end Go.Proofs.Ytbeohmcmphebhaa
