import Derived.Test.YtbeohmcmphebhaaDoorXRBlank
import Derived.Test.YtbeohmcmphebhaaDoorXParE
namespace Go.Proofs.YtbeohmcmphebhaaDoor
open Go.RowKit
set_option linter.unusedVariables false
/-! The other reader's tokens. -/
def rk (k : UInt8) : UInt8 := if k = 0 then 101 else if k = 1 then 110 else if k = 2 then 60 else if k = 3 then 104 else if k = 4 then 33 else if k = 33 then 126 else k
def kds : List UInt8 := [0, 1, 2, 3, 4, 40, 41, 47, 38, 33, 63, 42, 43]
theorem sg_kds : ∀ k : Fin 256, isSg (UInt8.ofNat k.val) = true → UInt8.ofNat k.val ∈ kds := by decide +kernel
theorem sg_kd (c : UInt8) (h : isSg c = true) : c ∈ kds := by
  have := sg_kds ⟨c.toNat, c.toNat_lt⟩
  simp at this
  exact this h
theorem tokB_kd (s : List UInt8) : (tokB s).k ∈ kds := by
  unfold tokB
  split
  · exact List.mem_cons_self
  split
  · show (2 : UInt8) ∈ kds; decide
  split
  · rename_i h; exact sg_kd _ h
  split
  · show (1 : UInt8) ∈ kds; decide
  · show (3 : UInt8) ∈ kds; decide
theorem tokS_kd (s : List UInt8) : (tokS s).k ∈ kds := by
  unfold tokS arr
  split
  · show (4 : UInt8) ∈ kds; decide
  · exact tokB_kd s
def rname (t : Tk) : ByteArray := if t.e.k = 4 then t.e.t else ⟨#[]⟩
/-- A token's cells. -/
def tkcs (n : Nat) (t : Tk) : Array Value := #[.int .u8 ((rk t.k).toNat : Int), .int .i64 ((n : Int) - t.s.length), .int .i64 t.e.k, .int .u64 (wd t.e.S 0), .int .u64 (wd t.e.S 1), .int .u64 (wd t.e.S 2), .int .u64 (wd t.e.S 3), .string t.e.t, .slice t.e.a t.e.kids.length t.e.c, .string (rname t)]
/-- Tokens one behind the other. -/
structure TL (T : ByteArray) (L : List Tk) : Prop where
  is : ∀ (j : Nat) (t : Tk), L[j]? = some t → t = tokS t.s ∧ t.s <:+ T.data.toList
  nx : ∀ (j : Nat) (t : Tk), L[j]? = some t → t.k ≠ 0 → t.k ≠ 4 → L[j + 1]? = some (tok t.r)
  len : L.length ≤ T.size + 1
/-- Where they lie. -/
def TW (n g : Nat) (L : List Tk) (W : World) : Prop := g < W.heap.size ∧ ∀ (j : Nat) (t : Tk), L[j]? = some t → ∀ m, m < 10 → W.cell? ⟨g, j * 10 + m, none⟩ = (tkcs n t)[m]?
theorem TW.below {n g : Nat} {L : List Tk} {w w' : World} (h : TW n g L w) (hb : Below w.heap.size w w') : TW n g L w' :=
  ⟨Nat.lt_of_lt_of_le h.1 hb.size, fun j t hj m hm => (hb.cell (p := ⟨g, j * 10 + m, none⟩) h.1).trans (h.2 j t hj m hm)⟩
theorem TW.alloc {n g : Nat} {L : List Tk} {w : World} (h : TW n g L w) (o : Obj) : TW n g L (w.alloc o) := h.below ((Below.refl _ w).alloc (Nat.le_refl _) o)
theorem TW.kind {n g : Nat} {L : List Tk} {w : World} (h : TW n g L w) {j : Nat} {t : Tk} (hj : L[j]? = some t) : w.cell? ⟨g, j * 10, none⟩ = some (.int .u8 ((rk t.k).toNat : Int)) := h.2 j t hj 0 (by omega)
theorem TL.of {T : ByteArray} {L : List Tk} (h : TL T L) {j : Nat} {t : Tk} (hj : L[j]? = some t) (h4 : t.k ≠ 4) : t.of T.data.toList := ⟨(h.is j t hj).1, (h.is j t hj).2, h4⟩
theorem TL.kd {T : ByteArray} {L : List Tk} (h : TL T L) {j : Nat} {t : Tk} (hj : L[j]? = some t) : t.k ∈ kds := by rw [(h.is j t hj).1]; exact tokS_kd _
theorem TL.small {T : ByteArray} {L : List Tk} (h : TL T L) {j : Nat} {t : Tk} (hj : L[j]? = some t) : t.s.length ≤ T.size := by have := (h.is j t hj).2.length_le; rwa [llen] at this
theorem TL.ou {T : ByteArray} {L : List Tk} (h : TL T L) (hT : T.size ≤ 1000000) {j : Nat} {t : Tk} (hj : L[j]? = some t) {P : Nat → Prop} {W : World} : t.e.Ou P W := by
  have h1 := tokS_t t.s
  rw [← (h.is j t hj).1] at h1
  have := h.small hj
  exact leaf_ou _ (by omega) h1.2
theorem TL.bare {T : ByteArray} {L : List Tk} (h : TL T L) {j : Nat} {t : Tk} (hj : L[j]? = some t) : t.e.er = t.e := by
  rw [(h.is j t hj).1]; exact tokS_bare _
theorem TL.next {T : ByteArray} {L : List Tk} (h : TL T L) {j : Nat} {t : Tk} (hj : L[j]? = some t) (h0 : t.k ≠ 0) (h4 : t.k ≠ 4) : L[j + 1]? = some (tok t.r) ∧ (tok t.r).s.length < t.s.length := by
  refine ⟨h.nx j t hj h0 h4, ?_⟩
  have h1 := (h.of hj h4).r.2.2 h0
  have : (tok t.r).s.length ≤ t.r.length := by unfold tok; rw [tokS_s]; exact (skip_suf _).length_le
  omega
/-- What reading from a token on tells. -/
def RdP (L : List Tk) (N : Nat) (w' : World) (R : Rs) (e : Ending) : Prop := ∃ (y : Ex) (j : Nat) (u : Tk) (b : Bool), e = .returned (.tuple #[.agg #[.int .i64 y.k, .int .u64 (wd y.S 0), .int .u64 (wd y.S 1), .int .u64 (wd y.S 2), .int .u64 (wd y.S 3), .string y.t, .slice y.a y.kids.length y.c], .int .i64 j, .bool b]) ∧ y.Ou (N ≤ ·) w' ∧ L[j]? = some u ∧
  (match R with | .ok x => b = true ∧ y.er = x.1 ∧ u = x.2 | .error s => u.s = s ∧ (b = true → u.k = 4))
def RDoes (T : ByteArray) (g cap : Nat) (L : List Tk) (f n : Nat) (fn : Tk → Rs) : Prop := ∀ (i : Nat) (t : Tk) (w : World), L[i]? = some t → t.s.length < n → TW T.size g L w →
  Calls Tryd.prog f #[.slice (some ⟨g, 0, none⟩) L.length cap, .int .i64 i] w fun e w' => RdP L w.heap.size w' (fn t) e ∧ Below w.heap.size w w'
/-- Behind a token that was taken. -/
theorem rp_take {T : ByteArray} {L : List Tk} (h : TL T L) {j : Nat} {t : Tk} (hj : L[j]? = some t) (h0 : t.k ≠ 0) (h4 : t.k ≠ 4) {N : Nat} {w' : World} {x : Ex} {e : Ending} {y : Ex} {k : Int} (hk : k = ((j + 1 : Nat) : Int)) (he : e = .returned (.tuple #[.agg #[.int .i64 y.k, .int .u64 (wd y.S 0), .int .u64 (wd y.S 1), .int .u64 (wd y.S 2), .int .u64 (wd y.S 3), .string y.t, .slice y.a y.kids.length y.c], .int .i64 k, .bool true])) (hy : y.Ou (N ≤ ·) w') (hx : y.er = x) : RdP L N w' (thn (take t) fun u => .ok (x, u)) e := by
  refine ⟨y, j + 1, tok t.r, true, by rw [he, hk], hy, (h.next hj h0 h4).1, ?_⟩
  unfold take
  by_cases h4' : (tok t.r).k = 4
  · rw [if_pos h4', thn_error]; exact ⟨rfl, fun _ => h4'⟩
  · rw [if_neg h4', thn_ok]; exact ⟨rfl, hx, rfl⟩
/-- A way of reading that tells of what is none. -/
def Tells (pre : Tk → Rs) : Prop := ∀ t : Tk, t.k = 4 → pre t = .error t.s
theorem preP_tells (n : Nat) : Tells (preP n) := by
  intro t h
  cases n with
  | zero => rfl
  | succ n =>
    rw [preP, if_neg (by rw [h]; decide), if_neg (by rw [h]; decide)]
    unfold primP
    rw [if_neg (by rw [h]; decide), if_neg (by rw [h]; decide)]
    rfl
theorem seqP_tells {pre : Tk → Rs} (hp : Tells pre) : Tells (seqP pre) := fun t h => by unfold seqP; rw [hp t h]; rfl
theorem altP_tells {pre : Tk → Rs} (hp : Tells pre) : Tells (altP pre) := fun t h => by unfold altP; rw [seqP_tells hp t h]; rfl
theorem thn_take {α : Type} (t : Tk) (f : Tk → Except (List UInt8) α) (hf : (tok t.r).k = 4 → f (tok t.r) = .error (tok t.r).s) : thn (take t) f = f (tok t.r) := by
  unfold take
  by_cases h : (tok t.r).k = 4
  · rw [if_pos h, thn_error, hf h]
  · rw [if_neg h, thn_ok]
/-! More rounds than bytes make no difference. -/
theorem seqL_fuel {T : List UInt8} {n : Nat} {pre : Tk → Rs} (hg : Goes T n pre) : ∀ (m k : Nat) (l : List Ex) (t : Tk), t.of T → t.s.length < n → t.s.length ≤ m → t.s.length ≤ k → seqL pre m l t = seqL pre k l t := by
  intro m
  induction m with
  | zero =>
    intro k l t ht hn hm hk
    have h0 : t.s = [] := List.eq_nil_of_length_eq_zero (by omega)
    have h2 : t.k = 0 := by rw [ht.1]; exact (tokS_end t.s).2 h0
    cases k with
    | zero => rfl
    | succ k => rw [seqL, seqL, h2]; rfl
  | succ m ih =>
    intro k l t ht hn hm hk
    by_cases hb : begins t.k = true
    · have h0 := begins_ne hb
      have hs : t.s ≠ [] := fun e => h0 (by rw [ht.1]; exact (tokS_end t.s).2 e)
      have hp := List.length_pos_iff.2 hs
      cases k with
      | zero => omega
      | succ k =>
        rw [seqL, seqL, if_pos hb, if_pos hb]
        have hf := hg t ht hn
        cases hx : pre t with
        | error s => rfl
        | ok x =>
          rw [hx] at hf
          rw [thn_ok, thn_ok]
          have := hf.2.1
          exact ih k _ _ hf.1 (by omega) (by omega) (by omega)
    · have hb' : begins t.k = false := by simpa using hb
      rw [seqL, hb']
      cases k with
      | zero => rfl
      | succ k => rw [seqL, hb']; rfl
theorem altL_fuel {T : List UInt8} {n : Nat} {pre : Tk → Rs} (hg : Goes T n pre) : ∀ (m k : Nat) (l : List Ex) (t : Tk), t.of T → t.s.length < n → t.s.length ≤ m → t.s.length ≤ k → altL pre m l t = altL pre k l t := by
  intro m
  induction m with
  | zero =>
    intro k l t ht hn hm hk
    have h0 : t.s = [] := List.eq_nil_of_length_eq_zero (by omega)
    have h2 : t.k = 0 := by rw [ht.1]; exact (tokS_end t.s).2 h0
    cases k with
    | zero => rfl
    | succ k => rw [altL, altL, h2]; rfl
  | succ m ih =>
    intro k l t ht hn hm hk
    by_cases hb : t.k = 47
    · have h0 : t.k ≠ 0 := by rw [hb]; decide
      have hs : t.s ≠ [] := fun e => h0 (by rw [ht.1]; exact (tokS_end t.s).2 e)
      have hp := List.length_pos_iff.2 hs
      cases k with
      | zero => omega
      | succ k =>
        rw [altL, altL, if_pos hb, if_pos hb]
        cases hu : take t with
        | error s => rfl
        | ok u =>
          obtain ⟨hu1, hu2⟩ := take_ok ht h0 hu
          rw [thn_ok, thn_ok]
          have hf := seqP_fine hg u hu1 (by omega)
          cases hx : seqP pre u with
          | error s => rfl
          | ok x =>
            rw [hx] at hf
            rw [thn_ok, thn_ok]
            have := hf.2.1
            exact ih k _ _ hf.1 (by omega) (by omega) (by omega)
    · rw [altL_no (m := m + 1) hb, altL_no hb]
/-- Kids so far, and a token from which on one more is read. -/
def seqG (pre : Tk → Rs) (l : List Ex) (t : Tk) : Rs := thn (pre t) fun x => seqL pre x.2.s.length (l ++ [x.1]) x.2
theorem seqG_nil (pre : Tk → Rs) (t : Tk) : seqG pre [] t = seqP pre t := rfl
theorem seqG_more {T : List UInt8} {n : Nat} {pre : Tk → Rs} (hg : Goes T n pre) (l : List Ex) (t : Tk) (ht : t.of T) (hn : t.s.length < n) (hb : begins t.k = true) : seqL pre t.s.length l t = seqG pre l t := by
  have h0 := begins_ne hb
  have hs : t.s ≠ [] := fun e => h0 (by rw [ht.1]; exact (tokS_end t.s).2 e)
  have hp := List.length_pos_iff.2 hs
  obtain ⟨m, hm⟩ : ∃ m, t.s.length = m + 1 := ⟨t.s.length - 1, by omega⟩
  rw [hm, seqL, if_pos hb]
  unfold seqG
  have hf := hg t ht hn
  cases hx : pre t with
  | error s => rfl
  | ok x =>
    rw [hx] at hf
    rw [thn_ok, thn_ok]
    have := hf.2.1
    exact seqL_fuel hg _ _ _ _ hf.1 (by omega) (by omega) (Nat.le_refl _)
theorem seqL_no {pre : Tk → Rs} {m : Nat} {l : List Ex} {t : Tk} (h : begins t.k = false) : seqL pre m l t = .ok (gath 5 l, t) := by
  cases m with
  | zero => rfl
  | succ g => rw [seqL, h]; rfl
def altG (pre : Tk → Rs) (l : List Ex) (t : Tk) : Rs := thn (seqP pre t) fun x => altL pre x.2.s.length (l ++ [x.1]) x.2
theorem altG_nil (pre : Tk → Rs) (t : Tk) : altG pre [] t = altP pre t := rfl
theorem altG_more {T : List UInt8} {n : Nat} {pre : Tk → Rs} (hg : Goes T n pre) (hp : Tells pre) (l : List Ex) (t : Tk) (ht : t.of T) (hn : t.s.length < n) (hb : t.k = 47) : altL pre t.s.length l t = altG pre l (tok t.r) := by
  have h0 : t.k ≠ 0 := by rw [hb]; decide
  have hs : t.s ≠ [] := fun e => h0 (by rw [ht.1]; exact (tokS_end t.s).2 e)
  have hpo := List.length_pos_iff.2 hs
  obtain ⟨m, hm⟩ : ∃ m, t.s.length = m + 1 := ⟨t.s.length - 1, by omega⟩
  rw [hm, altL, if_pos hb]
  unfold altG
  by_cases h4 : (tok t.r).k = 4
  · rw [seqP_tells hp _ h4]
    unfold take
    rw [if_pos h4]; rfl
  · have hu : take t = .ok (tok t.r) := by unfold take; rw [if_neg h4]
    obtain ⟨hu1, hu2⟩ := take_ok ht h0 hu
    rw [hu, thn_ok]
    have hf := seqP_fine hg _ hu1 (by omega)
    cases hx : seqP pre (tok t.r) with
    | error s => rfl
    | ok x =>
      rw [hx] at hf
      rw [thn_ok, thn_ok]
      have := hf.2.1
      exact altL_fuel hg _ _ _ _ hf.1 (by omega) (by omega) (Nat.le_refl _)
def postG (e : Ex) (t : Tk) : Rs := if t.k = 4 then .error t.s else postL t.s.length e t
theorem postL_fuel {T : List UInt8} : ∀ (m k : Nat) (e : Ex) (t : Tk), t.of T → t.s.length ≤ m → t.s.length ≤ k → postL m e t = postL k e t := by
  intro m
  induction m with
  | zero =>
    intro k e t ht hm hk
    have h0 : t.s = [] := List.eq_nil_of_length_eq_zero (by omega)
    have h2 : t.k = 0 := by rw [ht.1]; exact (tokS_end t.s).2 h0
    cases k with
    | zero => rfl
    | succ k => rw [postL, postL, h2]; rfl
  | succ m ih =>
    intro k e t ht hm hk
    by_cases hb : kindB t.k = 0
    · cases k with
      | zero => rw [postL.eq_2, if_pos hb]; rfl
      | succ k => rw [postL, postL, if_pos hb, if_pos hb]
    · have h0 := kindB_ne hb
      have hs : t.s ≠ [] := fun e => h0 (by rw [ht.1]; exact (tokS_end t.s).2 e)
      have hp := List.length_pos_iff.2 hs
      cases k with
      | zero => omega
      | succ k =>
        rw [postL, postL, if_neg hb, if_neg hb]
        cases hu : take t with
        | error s => rfl
        | ok u =>
          obtain ⟨hu1, hu2⟩ := take_ok ht h0 hu
          rw [thn_ok, thn_ok]
          exact ih k _ _ hu1 (by omega) (by omega)
theorem postG_no {e : Ex} {t : Tk} (h4 : t.k ≠ 4) (h : kindB t.k = 0) : postG e t = .ok (e, t) := by
  unfold postG
  rw [if_neg h4]
  cases t.s.length with
  | zero => rfl
  | succ m => rw [postL, if_pos h]
theorem postG_more {T : List UInt8} {e : Ex} {t : Tk} (ht : t.of T) (h : kindB t.k ≠ 0) : postG e t = postG (nd (kindB t.k) [e]) (tok t.r) := by
  have h0 := kindB_ne h
  have hs : t.s ≠ [] := fun e => h0 (by rw [ht.1]; exact (tokS_end t.s).2 e)
  have hp := List.length_pos_iff.2 hs
  unfold postG
  rw [if_neg ht.2.2]
  obtain ⟨m, hm⟩ : ∃ m, t.s.length = m + 1 := ⟨t.s.length - 1, by omega⟩
  rw [hm, postL, if_neg h]
  by_cases h4 : (tok t.r).k = 4
  · rw [if_pos h4]
    unfold take
    rw [if_pos h4]; rfl
  · have hu : take t = .ok (tok t.r) := by unfold take; rw [if_neg h4]
    obtain ⟨hu1, hu2⟩ := take_ok ht h0 hu
    rw [if_neg h4, hu, thn_ok]
    exact postL_fuel _ _ _ _ hu1 (by omega) (Nat.le_refl _)
theorem rk_fin : ∀ k ∈ kds, decide (0 ≤ Lib.indexByte [110, 40, 38, 126] (rk k)) = begins k ∧ (kindB k = 0 ↔ Lib.indexByte [42, 43, 63] (rk k) < 0) ∧ (kindB k ≠ 0 → kindB k = 7 + Lib.indexByte [42, 43, 63] (rk k)) ∧ ((rk k = 110) = (k = 1)) ∧ ((rk k = 40) = (k = 40)) ∧ ((rk k = 41) = (k = 41)) ∧ ((rk k = 47) = (k = 47)) ∧ ((rk k = 38) = (k = 38)) ∧ ((rk k = 126) = (k = 33)) ∧ ((rk k = 101) = (k = 0)) ∧ ((rk k = 104) = (k = 3)) := by
  decide +kernel
end Go.Proofs.YtbeohmcmphebhaaDoor
