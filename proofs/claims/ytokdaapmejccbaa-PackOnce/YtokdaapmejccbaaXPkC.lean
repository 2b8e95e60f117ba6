import Derived.Test.YtokdaapmejccbaaXTrG
import Derived.Test.YtokdaapmejccbaaXGChkA
import Derived.Test.YtokdaapmejccbaaXOpen
import Derived.Maps.OwnSet
import Derived.DeepKeys4
import Derived.Deep.AppendLies
import Derived.Deep.MidRow
import Derived.Test.YtokdaapmejccbaaXMeC
import Derived.Test.YtokdaapmejccbaaXSchA
namespace Go.Proofs.Ytokdaapmejccbaa
open Go.RowKit
open Go.Maps (Keyed)
set_option linter.unusedVariables false
set_option linter.unusedSimpArgs false
/-! What is remembered, as a map. -/
theorem law144 : Keyed Try.prog 144 := Keyed.of_law (deep_law_laid (m := 3) Try.laidOut (by decide) (of_decide_eq_true (by kernel_rfl)) (by kernel_rfl) (by rw [Try.underlying144]))
theorem cells3 : Try.prog.cellsOf 3 = 1 := by kernel_rfl
theorem cells144 : Try.prog.cellsOf 144 = 2 := by kernel_rfl
theorem keyType144 : Try.prog.keyType 144 = true := by kernel_rfl
def kl (i p : Nat) : Lit := .string (keyBytes [.int .i64 (i : Int), .int .i64 (p : Int)])
def kv (i p : Nat) : Value := .agg #[.int .i64 (i : Int), .int .i64 (p : Int)]
theorem wf_nat {n : Nat} (h : n ≤ 1000000) : (Lit.int .i64 (n : Int)).wf = true := by
  have h1 : IntKind.i64.min = -9223372036854775808 := by decide
  have h2 : IntKind.i64.max = 9223372036854775807 := by decide
  simp [Lit.wf, h1, h2]
  omega
theorem lits3 (d : Nat) {n : Nat} (h : n ≤ 1000000) : Try.prog.keyLits (d + 1) 3 [.int .i64 (n : Int)] = some [.int .i64 (n : Int)] := by
  simp [Program.keyLits, Try.underlying3, wf_nat h]
theorem key_mk {i p : Nat} (hi : i ≤ 1000000) (hp : p ≤ 1000000) : keyOf Try.prog 144 (kv i p) = some (kl i p) := by
  have hf : Value.formed Try.prog 144 (kv i p) = true := by simp [kv, Value.formed, Try.underlying144, cells144]
  unfold keyOf
  rw [Try.underlying144]
  simp only [keyType144, hf, Bool.and_self, if_true]
  have : Try.prog.keyLits (Try.prog.types.size + 1) 144 (kv i p).cells.toList = some [.int .i64 (i : Int), .int .i64 (p : Int)] := by
    obtain ⟨d, hd⟩ : ∃ d, Try.prog.types.size = d + 1 := ⟨Try.prog.types.size - 1, by have : 144 < Try.prog.types.size := of_decide_eq_true (by kernel_rfl); omega⟩
    rw [hd]
    unfold Program.keyLits
    rw [Try.underlying144]
    simp [kv, Value.cells, cells144, cells3, lits3 d hi, lits3 d hp]
  rw [this]
  rfl
theorem kl_inj {i p i' p' : Nat} (hi : i ≤ 1000000) (hp : p ≤ 1000000) (hi' : i' ≤ 1000000) (hp' : p' ≤ 1000000) (h : kl i p = kl i' p') : i = i' ∧ p = p' := by
  have := law144.inj (key_mk hi hp) (by rw [key_mk hi' hp', h])
  simp [kv] at this
  omega
theorem kl_key (i p : Nat) : WideAt.IsKeyLit (kl i p) := trivial
/-- How an outcome reads. -/
def RO (v : Value) : Option (DataW Unit × List MemPlace) :=
  match v with
  | .agg ⟨[.bool z, .int .i64 n]⟩ => some (.agg [.lit (.bool z), .lit (.int .i64 n)], [])
  | _ => none
def dO (p : Nat) : Ot → DataW Unit
  | none => .agg [.lit (.bool false), .lit (.int .i64 0)]
  | some q => .agg [.lit (.bool true), .lit (.int .i64 ((q : Int) - p))]
theorem RO_mk (p : Nat) : ∀ o : Ot, RO (oval p o) = some (dO p o, [])
  | none => rfl
  | some q => rfl
theorem RO_inv {v : Value} {p : Nat} {o : Ot} {ps : List MemPlace} (h : RO v = some (dO p o, ps)) : v = oval p o := by
  unfold RO at h
  split at h
  · cases o with
    | none => simp [dO] at h; obtain ⟨⟨rfl, rfl⟩, -⟩ := h; rfl
    | some q => simp [dO] at h; obtain ⟨⟨rfl, rfl⟩, -⟩ := h; rfl
  · cases h
/-- The map, and what it says. -/
structure Mp (k : Nat) (L : List St) (W : World) (D : DataW Unit) : Prop where
  own : W.ownsMap Try.prog 144 RO k L.length D
  has : ∀ i p, i ≤ 1000000 → p ≤ 1000000 → Maps.has D (kl i p) = (memo L i p).isSome
  at_ : ∀ i p o, i ≤ 1000000 → p ≤ 1000000 → memo L i p = some o → ∀ z, D.atKey (kl i p) z = dO p o
theorem Mp.start (w : World) : Mp w.heap.size [] (w.alloc (.map #[] 0)) (.map []) := ⟨World.ownsMap_made w _ _ _, fun _ _ _ _ => rfl, fun _ _ _ _ _ h => by cases h⟩
theorem memo_app {L : List St} {i p j q : Nat} {o : Ot} (hn : memo L i p = none) : memo (L ++ [((i, p), o)]) j q = if (i, p) = (j, q) then some o else memo L j q := by
  unfold memo at hn ⊢
  rw [List.find?_append]
  split
  · rename_i e
    cases e
    rw [show L.find? (fun x => x.1 == (i, p)) = none from by simpa using hn]
    simp
  · rename_i e
    cases hf : L.find? fun x => x.1 == (j, q) with
    | some x => simp
    | none => simp [e]
theorem underlying96 : Try.prog.underlying 96 = some (.map 144 29) := by kernel_rfl
theorem zero29 (w : World) : (zeroValue 29).run Try.prog w = .ok (.agg #[.bool false, .int .i64 0]) w := by kernel_rfl
def hitV (p : Nat) (m : Option Ot) : Value := .tuple #[oval p (m.getD none), .bool m.isSome]
theorem Mp.look {k : Nat} {L : List St} {W : World} {D : DataW Unit} (h : Mp k L W D) {i p : Nat} (hi : i ≤ 1000000) (hp : p ≤ 1000000) :
    (Instr.lookup 96 (.map (some k)) (kv i p) true).run Try.prog W = .ok (hitV p (memo L i p)) W := by
  obtain ⟨v, ps, hr, hv⟩ := h.own.look_ok (z := .agg #[.bool false, .int .i64 0]) (zd := dO p none) (zp := []) law144 underlying96 (zero29 W) (RO_mk p none) (key_mk hi hp)
  rw [hr]
  have hh := h.has i p hi hp
  rw [hh]
  cases hm : memo L i p with
  | none =>
    rw [hm] at hh
    rw [Maps.atKey_of_not_has (by simpa using hh)] at hv
    have := RO_inv hv
    rw [this]
    rfl
  | some o =>
    rw [h.at_ i p o hi hp hm] at hv
    have := RO_inv hv
    rw [this]
    rfl
theorem Mp.put {k : Nat} {L : List St} {W W' : World} {D : DataW Unit} (h : Mp k L W D) {i p : Nat} {o : Ot} (hi : i ≤ 1000000) (hp : p ≤ 1000000) (hn : memo L i p = none) (ho : W'.ownsMap Try.prog 144 RO k (L.length + 1) (D.put (kl i p) (dO p o))) :
    Mp k (L ++ [((i, p), o)]) W' (D.put (kl i p) (dO p o)) := by
  have hM := h.own.isMap
  refine ⟨by simpa using ho, fun j q hj hq => ?_, fun j q o' hj hq hm z => ?_⟩
  · rw [memo_app hn]
    by_cases e : (i, p) = (j, q)
    · cases e
      rw [if_pos rfl, Maps.has_put_same hM (kl_key _ _)]
      rfl
    · rw [if_neg e, Maps.has_put_other (fun e2 => e (by obtain ⟨h1, h2⟩ := kl_inj hj hq hi hp e2; rw [h1, h2]))]
      exact h.has j q hj hq
  · rw [memo_app hn] at hm
    by_cases e : (i, p) = (j, q)
    · cases e
      rw [if_pos rfl] at hm
      cases hm
      exact Maps.atKey_put_same hM (kl_key _ _) _ _
    · rw [if_neg e] at hm
      rw [Maps.atKey_put_other (fun e2 => e (by obtain ⟨h1, h2⟩ := kl_inj hj hq hi hp e2; rw [h1, h2]))]
      exact h.at_ j q o' hj hq hm z
/-! The steps, where they lie. -/
def stc (x : St) : List Value := [.int .i64 (x.1.1 : Int), .int .i64 (x.1.2 : Int)] ++ (ocells x.1.2 x.2).toList
def stL (L : List St) : List Value := L.flatMap stc
theorem stc_len (x : St) : (stc x).length = 4 := by unfold stc; cases x.2 <;> rfl
theorem stL_len : ∀ L : List St, (stL L).length = L.length * 4
  | [] => rfl
  | x :: r => by rw [show stL (x :: r) = stc x ++ stL r from rfl, List.length_append, stL_len r, stc_len, List.length_cons]; omega
theorem stL_app (L : List St) (x : St) : stL (L ++ [x]) = stL L ++ stc x := by simp [stL]
theorem stc_one (x : St) : ∀ u ∈ stc x, u.oneCell' = true := by
  intro u hu
  unfold stc at hu
  cases hx : x.2 with
  | none => rw [hx] at hu; simp [ocells] at hu; rcases hu with rfl | rfl | rfl | rfl <;> rfl
  | some q => rw [hx] at hu; simp [ocells] at hu; rcases hu with rfl | rfl | rfl | rfl <;> rfl
def zs : Array Value := #[.int .i64 0, .int .i64 0, .bool false, .int .i64 0]
theorem info43 : (Try.prog.info? 43).map (fun i => (i.zero, i.size, i.bytes)) = some (some (.agg zs), 4, 32) := by kernel_rfl
theorem underlying38 : Try.prog.underlying 38 = some (.slice 43) := by kernel_rfl
end Go.Proofs.Ytokdaapmejccbaa
namespace Go.Proofs.Ytokdaapmejccbaa
open Go.RowKit
set_option linter.unusedVariables false
/-! With all remembered, while there is room, and nothing is there twice. -/
def Rm (L : List St) : Bool := decide (L.length ≤ 1000000) && decide ((L.map (·.1)).Nodup)
theorem Rm_iff (L : List St) : Rm L = true ↔ L.length ≤ 1000000 ∧ (L.map (·.1)).Nodup := by simp [Rm]
theorem Rm_pre {L N : List St} (h : Rm (L ++ N) = true) : Rm L = true := by
  rw [Rm_iff] at h ⊢
  rw [List.length_append, List.map_append, List.nodup_append] at h
  exact ⟨by omega, h.2.1⟩
theorem Rm_new {L : List St} {i p : Nat} {o : Ot} (h : Rm (L ++ [((i, p), o)]) = true) : memo L i p = none ∧ L.length < 1000000 := by
  rw [Rm_iff, List.length_append, List.map_append, List.nodup_append] at h
  refine ⟨?_, by have := h.1; simp at this; omega⟩
  cases hm : memo L i p with
  | none => rfl
  | some o' =>
    have := memo_some hm
    exact absurd rfl (h.2.2.2 (i, p) (List.mem_map.2 ⟨_, this, rfl⟩) (i, p) (by simp))
def ruleK (F : Ex → Nat → List St → Rg (List St)) (i : Nat) (b : Ex) (p : Nat) (L : List St) : Rg (List St) :=
  match memo L i p with
  | some o => some (some (o, L))
  | none => match F b p L with
    | none => none
    | some none => some none
    | some (some (o, L')) => if Rm (L' ++ [((i, p), o)]) then some (some (o, L' ++ [((i, p), o)])) else none
def callK (g : Gr) (F : Ex → Nat → List St → Rg (List St)) (t : ByteArray) (p : Nat) (L : List St) : Rg (List St) :=
  match bodyOf g t with
  | none => none
  | some b => ruleK F (fnd g.rules t).toNat b p L
/-- What was remembered stays. -/
def PreM (F : Ex → Nat → List St → RtL) : Prop := ∀ e p L o L', F e p L = some (o, L') → ∃ N, L' = L ++ N
theorem pre_trans {A B C : List St} (h : ∃ N, B = A ++ N) (k : ∃ N, C = B ++ N) : ∃ N, C = A ++ N := by
  obtain ⟨N, rfl⟩ := h
  obtain ⟨M, rfl⟩ := k
  exact ⟨N ++ M, by simp⟩
theorem pre_refl (A : List St) : ∃ N, A = A ++ N := ⟨[], by simp⟩
section
variable {F : Ex → Nat → List St → RtL} {G : Ex → Nat → List St → Rg (List St)}
theorem seqM_pre (h : PreM F) : ∀ (l : List Ex) (p : Nat) (L : List St) (o : Ot) (L' : List St), seqM F l p L = some (o, L') → ∃ N, L' = L ++ N
  | [], p, L, o, L', hs => by cases hs; exact pre_refl _
  | e :: l, p, L, o, L', hs => by
    rw [seqM] at hs
    match hF : F e p L with
    | none => rw [hF] at hs; cases hs
    | some (none, M) => rw [hF] at hs; cases hs; exact h e p L _ _ hF
    | some (some q, M) => rw [hF] at hs; exact pre_trans (h e p L _ _ hF) (seqM_pre h l q M o L' hs)
theorem altM_pre (h : PreM F) : ∀ (l : List Ex) (p : Nat) (L : List St) (o : Ot) (L' : List St), altM F l p L = some (o, L') → ∃ N, L' = L ++ N
  | [], p, L, o, L', hs => by cases hs; exact pre_refl _
  | e :: l, p, L, o, L', hs => by
    rw [altM] at hs
    match hF : F e p L with
    | none => rw [hF] at hs; cases hs
    | some (some q, M) => rw [hF] at hs; cases hs; exact h e p L _ _ hF
    | some (none, M) => rw [hF] at hs; exact pre_trans (h e p L _ _ hF) (altM_pre h l p M o L' hs)
theorem starM_pre (h : PreM F) (e : Ex) : ∀ (m p : Nat) (L : List St) (o : Ot) (L' : List St), starM F e m p L = some (o, L') → ∃ N, L' = L ++ N
  | 0, p, L, o, L', hs => by cases hs
  | m + 1, p, L, o, L', hs => by
    rw [starM] at hs
    match hF : F e p L with
    | none => rw [hF] at hs; cases hs
    | some (none, M) => rw [hF] at hs; cases hs; exact h e p L _ _ hF
    | some (some q, M) => rw [hF] at hs; exact pre_trans (h e p L _ _ hF) (starM_pre h e m q M o L' hs)
/-- Where there is room for all that comes, there is room all the time. -/
def MeK (F : Ex → Nat → List St → RtL) (G : Ex → Nat → List St → Rg (List St)) : Prop := ∀ e p L o L', F e p L = some (o, L') → Rm L' = true → G e p L = some (some (o, L'))
theorem seqG_k (hp : PreM F) (h : MeK F G) : ∀ (l : List Ex) (p : Nat) (L : List St) (o : Ot) (L' : List St), seqM F l p L = some (o, L') → Rm L' = true → seqG G l p L = some (some (o, L'))
  | [], p, L, o, L', hs, hr => by cases hs; rfl
  | e :: l, p, L, o, L', hs, hr => by
    rw [seqM] at hs
    rw [seqG]
    match hF : F e p L with
    | none => rw [hF] at hs; cases hs
    | some (none, M) => rw [hF] at hs; cases hs; rw [h e p L _ _ hF hr]
    | some (some q, M) =>
      rw [hF] at hs
      obtain ⟨N, rfl⟩ := seqM_pre hp l q M o L' hs
      rw [h e p L _ _ hF (Rm_pre hr)]
      exact seqG_k hp h l q M o _ hs hr
theorem altG_k (hp : PreM F) (h : MeK F G) : ∀ (l : List Ex) (p : Nat) (L : List St) (o : Ot) (L' : List St), altM F l p L = some (o, L') → Rm L' = true → altG G l p L = some (some (o, L'))
  | [], p, L, o, L', hs, hr => by cases hs; rfl
  | e :: l, p, L, o, L', hs, hr => by
    rw [altM] at hs
    rw [altG]
    match hF : F e p L with
    | none => rw [hF] at hs; cases hs
    | some (some q, M) => rw [hF] at hs; cases hs; rw [h e p L _ _ hF hr]
    | some (none, M) =>
      rw [hF] at hs
      obtain ⟨N, rfl⟩ := altM_pre hp l p M o L' hs
      rw [h e p L _ _ hF (Rm_pre hr)]
      exact altG_k hp h l p M o _ hs hr
theorem starG_k (hp : PreM F) (h : MeK F G) (e : Ex) : ∀ (m p : Nat) (L : List St) (o : Ot) (L' : List St), starM F e m p L = some (o, L') → Rm L' = true → starG G e m p L = some (some (o, L'))
  | 0, p, L, o, L', hs, hr => by cases hs
  | m + 1, p, L, o, L', hs, hr => by
    rw [starM] at hs
    rw [starG]
    match hF : F e p L with
    | none => rw [hF] at hs; cases hs
    | some (none, M) => rw [hF] at hs; cases hs; rw [h e p L _ _ hF hr]
    | some (some q, M) =>
      rw [hF] at hs
      obtain ⟨N, rfl⟩ := starM_pre hp e m q M o L' hs
      rw [h e p L _ _ hF (Rm_pre hr)]
      exact starG_k hp h e m q M o _ hs hr
end
theorem evM_pre (g : Gr) (s : List UInt8) : ∀ f, PreM (evM g s f)
  | 0, e, p, L, o, L', h => by cases h
  | f + 1, e, p, L, o, L', h => by
    have ih := evM_pre g s f
    rw [evM] at h
    by_cases h1 : e.k = 1 ∨ e.k = 2 ∨ e.k = 3
    · rw [if_pos h1] at h; cases h; exact pre_refl _
    rw [if_neg h1] at h
    by_cases h4 : e.k = 4
    · rw [if_pos h4] at h
      cases hb : bodyOf g e.t with
      | none => rw [hb] at h; cases h
      | some b =>
        rw [hb] at h
        simp only at h
        cases hm : memo L (fnd g.rules e.t).toNat p with
        | some o' => rw [hm] at h; cases h; exact pre_refl _
        | none =>
          rw [hm] at h
          simp only at h
          match hF : evM g s f b p L with
          | none => rw [hF] at h; cases h
          | some (o', M) =>
            rw [hF] at h
            cases h
            exact pre_trans (ih b p L _ _ hF) ⟨_, rfl⟩
    rw [if_neg h4] at h
    by_cases h5 : e.k = 5
    · rw [if_pos h5] at h; exact seqM_pre ih _ _ _ _ _ h
    rw [if_neg h5] at h
    by_cases h6 : e.k = 6
    · rw [if_pos h6] at h; exact altM_pre ih _ _ _ _ _ h
    rw [if_neg h6] at h
    cases hk : e.kids with
    | nil => rw [hk] at h; cases h
    | cons y l =>
      rw [hk] at h
      simp only at h
      by_cases h7 : e.k = 7
      · rw [if_pos h7] at h; exact starM_pre ih y f p L o L' h
      rw [if_neg h7] at h
      match hF : evM g s f y p L with
      | none => rw [hF] at h; cases h
      | some (o', M) =>
        rw [hF] at h
        simp only at h
        by_cases h8 : e.k = 8
        · rw [if_pos h8] at h
          cases o' with
          | none => cases h; exact ih y p L _ _ hF
          | some q => exact pre_trans (ih y p L _ _ hF) (starM_pre ih y f q M o L' h)
        · rw [if_neg h8] at h
          cases h
          exact ih y p L _ _ hF
theorem tryG_k (g : Gr) (s : List UInt8) : ∀ f, MeK (evM g s f) (tryG (callK g) noTold s f)
  | 0, e, p, L, o, L', h, _ => by cases h
  | f + 1, e, p, L, o, L', h, hr => by
    have ih := tryG_k g s f
    have hp := evM_pre g s f
    rw [tryG, toldG_no]
    rw [evM] at h
    unfold comesG
    by_cases h1 : e.k = 1 ∨ e.k = 2 ∨ e.k = 3
    · rw [if_pos h1] at h ⊢; cases h; rfl
    rw [if_neg h1] at h ⊢
    by_cases h4 : e.k = 4
    · rw [if_pos h4] at h ⊢
      rw [show callK g (tryG (callK g) noTold s f) e.t p L = (match bodyOf g e.t with | none => none | some b => ruleK (tryG (callK g) noTold s f) (fnd g.rules e.t).toNat b p L) from rfl]
      unfold ruleK
      cases hb : bodyOf g e.t with
      | none => rw [hb] at h; cases h
      | some b =>
        rw [hb] at h
        simp only at h ⊢
        cases hm : memo L (fnd g.rules e.t).toNat p with
        | some o' => rw [hm] at h; cases h; rfl
        | none =>
          rw [hm] at h
          simp only at h ⊢
          match hF : evM g s f b p L with
          | none => rw [hF] at h; cases h
          | some (o', M) =>
            rw [hF] at h
            cases h
            rw [ih b p L _ _ hF (Rm_pre hr)]
            simp only
            rw [if_pos hr]
    rw [if_neg h4] at h ⊢
    by_cases h5 : e.k = 5
    · rw [if_pos h5] at h ⊢; exact seqG_k hp ih _ _ _ _ _ h hr
    rw [if_neg h5] at h ⊢
    by_cases h6 : e.k = 6
    · rw [if_pos h6] at h ⊢; exact altG_k hp ih _ _ _ _ _ h hr
    rw [if_neg h6] at h ⊢
    cases hk : e.kids with
    | nil => rw [hk] at h; cases h
    | cons y l =>
      rw [hk] at h
      simp only at h ⊢
      by_cases h7 : e.k = 7
      · rw [if_pos h7] at h ⊢; exact starG_k hp ih y f p L o L' h hr
      rw [if_neg h7] at h ⊢
      match hF : evM g s f y p L with
      | none => rw [hF] at h; cases h
      | some (o', M) =>
        rw [hF] at h
        simp only at h
        by_cases h8 : e.k = 8
        · rw [if_pos h8] at h
          cases o' with
          | none => cases h; rw [ih y p L _ _ hF hr]; simp only; rw [if_pos h8]
          | some q =>
            obtain ⟨N, rfl⟩ := starM_pre hp y f q M o L' h
            rw [ih y p L _ _ hF (Rm_pre hr)]
            simp only
            rw [if_pos h8]
            exact starG_k hp ih y f q M o _ h hr
        · rw [if_neg h8] at h
          cases h
          rw [ih y p L _ _ hF hr]
          simp only
          rw [if_neg h8]
/-! What is remembered lies in the text. -/
def InT (g : Gr) (len : Nat) (L : List St) : Prop := ∀ x ∈ L, x.1.1 < g.rules.length ∧ x.1.2 ≤ len ∧ ∀ q, x.2 = some q → x.1.2 ≤ q ∧ q ≤ len
theorem InT.nil (g : Gr) (len : Nat) : InT g len [] := fun x h => by cases h
theorem ruleK_bnd {g : Gr} {len : Nat} {F : Ex → Nat → List St → Rg (List St)} (hF : Bnd g len (InT g len) F) {i : Nat} {b : Ex} (hi : i < g.rules.length) (hb : b.Ok (IsRule g)) {p : Nat} {L L' : List St} {o : Ot} (hp : p ≤ len) (hL : InT g len L) (h : ruleK F i b p L = some (some (o, L'))) : InT g len L' ∧ ∀ q, o = some q → p ≤ q ∧ q ≤ len := by
  unfold ruleK at h
  cases hm : memo L i p with
  | some o' =>
    rw [hm] at h
    cases h
    exact ⟨hL, (hL _ (memo_some hm)).2.2⟩
  | none =>
    rw [hm] at h
    simp only at h
    match hb' : F b p L with
    | none => rw [hb'] at h; cases h
    | some none => rw [hb'] at h; cases h
    | some (some (o', M)) =>
      rw [hb'] at h
      simp only at h
      split at h
      · cases h
        obtain ⟨h1, h2⟩ := hF b p L _ _ hb hp hL hb'
        refine ⟨fun x hx => ?_, h2⟩
        rcases List.mem_append.1 hx with hx | hx
        · exact h1 x hx
        · rw [List.mem_singleton] at hx
          subst hx
          exact ⟨hi, hp, h2⟩
      · cases h
theorem callK_bnd {g : Gr} (hB : BOk g) {len : Nat} : ∀ F, Bnd g len (InT g len) F → BndC g len (InT g len) (callK g F) := fun F hF t p x o y ht hp hx h => by
  obtain ⟨i, r, hi, hr, hb⟩ := body_of ht
  unfold callK at h
  rw [hb, hi] at h
  simp only [Int.toNat_natCast] at h
  exact ruleK_bnd hF (List.getElem?_eq_some_iff.1 hr).1 (hB r (List.mem_of_getElem? hr)) hp hx h
theorem tryK_bnd {g : Gr} (hB : BOk g) (T : ByteArray) (f : Nat) : Bnd g T.size (InT g T.size) (tryG (callK g) noTold T.data.toList f) :=
  tryG_bnd (g := g) T.data.toList (callK_bnd hB) (fun e p o x y hx h => by cases h; exact hx) f
end Go.Proofs.Ytokdaapmejccbaa
namespace Go.Proofs.Ytokdaapmejccbaa
open Go.RowKit
set_option linter.unusedVariables false
set_option linter.unusedSimpArgs false
/-! Boxes of one's own, of any type. -/
structure Obt (X : World → Nat → Prop) (w0 W : World) (B : Nat) (t : TypeId) (cs : Array Value) : Prop where
  box : BoxN W B t cs
  no : ¬ X W B
  ge : w0.heap.size ≤ B
section
variable {σ : Type} {T : ByteArray} {tb tO N : Nat} {rv tv : Value} {J : σ → World → Prop} {X : World → Nat → Prop}
theorem Obt.new (E : Envx σ T tb tO N rv tv J X) {x : σ} {w0 W : World} (h : Mdx N J X x w0 W) (t : TypeId) (cs : Array Value) : Obt X w0 (W.alloc (.cells cs t)) W.heap.size t cs := by
  obtain ⟨-, h2⟩ := E.lo h.j (W' := W.alloc (.cells cs t)) ⟨rfl, rfl, rfl, by simp, fun k hk _ => Below.heap_alloc W _ k hk⟩
  exact ⟨BoxN.new W t cs, fun h3 => Nat.lt_irrefl _ (E.bx h.j (h2 _ h3)).2, h.kp.size⟩
theorem Obt.below (E : Envx σ T tb tO N rv tv J X) {x : σ} {w0 W W' : World} {B : Nat} {t : TypeId} {cs : Array Value} (hM : Mdx N J X x w0 W) (h : Obt X w0 W B t cs) (hb : Below W.heap.size W W') : Obt X w0 W' B t cs := by
  obtain ⟨-, h2⟩ := E.lo hM.j (W' := W') ⟨hb.os, hb.tape, hb.output, hb.size, fun k hk _ => hb.block k hk⟩
  exact ⟨h.box.below hb h.box.lt, fun h3 => h.no (h2 _ h3), h.ge⟩
theorem Obt.call {w0 W W' : World} {B : Nat} {t : TypeId} {cs : Array Value} (h : Obt X w0 W B t cs) (hk : Kpx X W W') : Obt X w0 W' B t cs :=
  ⟨(hk.keep B h.box.lt h.no).1.trans h.box, (hk.keep B h.box.lt h.no).2, h.ge⟩
/-- A box turned: what else lies there stays. -/
theorem Obt.lox {w0 W : World} {B : Nat} {t : TypeId} {cs : Array Value} (h : Obt X w0 W B t cs) {W' : World} (hN : N ≤ w0.heap.size) (hg : W.grownBy W' (some B)) : Lox N X W W' :=
  ⟨hg.os, hg.tape, hg.output, hg.size, fun k hk hx => hg.block k hk (fun e => by
    cases e
    rcases hx with hx | hx
    · have := h.ge; omega
    · exact h.no hx)⟩
theorem Obt.store (E : Envx σ T tb tO N rv tv J X) {x : σ} {w0 W W' : World} {B : Nat} {t : TypeId} {cs cs' : Array Value} (hM : Mdx N J X x w0 W) (hN : N ≤ w0.heap.size) (h : Obt X w0 W B t cs) (hb : BoxN W' B t cs') (hg : W.grownBy W' (some B)) : Mdx N J X x w0 W' ∧ Obt X w0 W' B t cs' := by
  obtain ⟨h1, h2⟩ := E.lo hM.j (h.lox hN hg)
  refine ⟨⟨h1, hg.os.trans hM.kp.os, hg.tape.trans hM.kp.tape, hg.output.trans hM.kp.output, Nat.le_trans hM.kp.size hg.size, fun k hk hx => ?_⟩, hb, fun h3 => h.no (h2 _ h3), h.ge⟩
  obtain ⟨k1, k2⟩ := hM.kp.keep k hk hx
  exact ⟨(hg.block k (Nat.lt_of_lt_of_le hk hM.kp.size) (fun e => by cases e; have := h.ge; omega)).trans k1, fun h3 => k2 (h2 _ h3)⟩
theorem Obt.other (E : Envx σ T tb tO N rv tv J X) {x : σ} {w0 W W' : World} {B B' : Nat} {t t' : TypeId} {cs cs' : Array Value} (hM : Mdx N J X x w0 W) (hN : N ≤ w0.heap.size) (h : Obt X w0 W B t cs) (h' : Obt X w0 W B' t' cs') (hne : B ≠ B') (hg : W.grownBy W' (some B')) : Obt X w0 W' B t cs := by
  obtain ⟨-, h2⟩ := E.lo hM.j (h'.lox hN hg)
  exact ⟨h.box.kept hg (fun e => hne (by cases e; rfl)), fun h3 => h.no (h2 _ h3), h.ge⟩
end
/-! The memory, where it lies: its box, the map. -/
structure Pm where
  mk ::
  (m k : Nat)
def ruleM (P : Pm) : Value := .func (.func 80) #[.pointer (some ⟨P.m, 0, none⟩)] #[]
def mmc (g : Gr) (T : ByteArray) (P : Pm) (tv sv : Value) : Array Value := #[.slice g.a g.rules.length g.c, .string T, ruleM P, tv, .map (some P.k), sv]
abbrev St2 := List St × List St
/-- What is known, and what was written down of it. -/
structure JX (g : Gr) (T : ByteArray) (tv : Value) (P : Pm) (N : Nat) (x : St2) (W : World) (sv : Value) (D : DataW Unit) : Prop where
  gi : g.In N W
  bm : BoxN W P.m 98 (mmc g T P tv sv)
  mp : Mp P.k x.1 W D
  rw : W.ownsRow N 43 4 sv x.2.length (stL x.2)
  ns : ∀ b, sv.ownBlock = some b → b ≠ P.m ∧ b ≠ P.k
  ge : N ≤ P.m ∧ N ≤ P.k ∧ P.m ≠ P.k
  lt : N ≤ W.heap.size
def JM2 (g : Gr) (T : ByteArray) (tv : Value) (P : Pm) (N : Nat) (x : St2) (W : World) : Prop := ∃ sv D, JX g T tv P N x W sv D
def JM (g : Gr) (T : ByteArray) (tv : Value) (P : Pm) (N : Nat) (L : List St) (W : World) : Prop := JM2 g T tv P N (L, L) W
def XM (P : Pm) (W : World) (k : Nat) : Prop := k = P.m ∨ k = P.k ∨ ∃ v, W.cell? ⟨P.m, 5, none⟩ = some v ∧ v.ownBlock = some k
theorem ownsRow_blk {w w' : World} {base n : Nat} {e : TypeId} {size : Nat} {v : Value} {xs : List Value} (h : w.ownsRow base e size v n xs) (hb : ∀ b, v.ownBlock = some b → w'.heap[b]? = w.heap[b]?) : w'.ownsRow base e size v n xs := by
  refine ⟨h.1, ?_⟩
  rcases h.2 with hn | ⟨g, cap, cur, rfl, hb', hgg, rest⟩
  · exact .inl hn
  · exact .inr ⟨g, cap, cur, rfl, hb', (hb g rfl).trans hgg, rest⟩
theorem ownsMap_blk {w w' : World} {P : Program} {k : TypeId} {R : Value → Option (DataW Unit × List MemPlace)} {b n : Nat} {D : DataW Unit} (h : w.ownsMap P k R b n D) (hb : w'.heap[b]? = w.heap[b]?) : w'.ownsMap P k R b n D := by
  obtain ⟨es, clock, h1, h2⟩ := h
  exact ⟨es, clock, hb.trans h1, h2⟩
theorem JX.x {g : Gr} {T : ByteArray} {tv : Value} {P : Pm} {N : Nat} {x : St2} {W : World} {sv : Value} {D : DataW Unit} (h : JX g T tv P N x W sv D) : ∀ k, XM P W k ↔ k = P.m ∨ k = P.k ∨ sv.ownBlock = some k := fun k => by
  have hc : W.cell? ⟨P.m, 5, none⟩ = some sv := h.bm.cell 5
  unfold XM
  rw [hc]
  constructor
  · rintro (h | h | ⟨v, hv, h⟩)
    · exact .inl h
    · exact .inr (.inl h)
    · cases hv; exact .inr (.inr h)
  · rintro (h | h | h)
    · exact .inl h
    · exact .inr (.inl h)
    · exact .inr (.inr ⟨_, rfl, h⟩)
theorem JX.lo {g : Gr} {T : ByteArray} {tv : Value} {P : Pm} {N : Nat} {x : St2} {W W' : World} {sv : Value} {D : DataW Unit} (h : JX g T tv P N x W sv D) (hl : Lox N (XM P) W W') : JX g T tv P N x W' sv D ∧ ∀ k, XM P W' k → XM P W k := by
  have hm : BoxN W' P.m 98 (mmc g T P tv sv) := hl.box h.bm ((h.x _).2 (.inl rfl))
  have hj : JX g T tv P N x W' sv D := ⟨h.gi.below (hl.below h.lt), hm, ⟨ownsMap_blk h.mp.own (hl.keep _ h.mp.own.lt (.inr ((h.x _).2 (.inr (.inl rfl))))), h.mp.has, h.mp.at_⟩,
    ownsRow_blk h.rw (fun b hb => hl.keep b (h.rw.lt b hb).2 (.inr ((h.x _).2 (.inr (.inr hb))))), h.ns, h.ge, Nat.le_trans h.lt hl.size⟩
  exact ⟨hj, fun k hk => (h.x k).2 ((hj.x k).1 hk)⟩
theorem envM2 (g : Gr) (T : ByteArray) (tv : Value) (P : Pm) (N : Nat) : Envx St2 T P.m 1 N (ruleM P) tv (JM2 g T tv P N) (XM P) where
  c0 h := by obtain ⟨sv, D, h⟩ := h; exact h.bm.cell 1
  c1 h := by obtain ⟨sv, D, h⟩ := h; exact h.bm.cell 2
  c2 h := by obtain ⟨sv, D, h⟩ := h; exact h.bm.cell 3
  bx h hx := by
    obtain ⟨sv, D, h⟩ := h
    rcases (h.x _).1 hx with rfl | rfl | hx
    · exact ⟨h.ge.1, h.bm.lt⟩
    · exact ⟨h.ge.2.1, h.mp.own.lt⟩
    · exact h.rw.lt _ hx
  lt h := by obtain ⟨sv, D, h⟩ := h; exact h.lt
  lo h hl := by
    obtain ⟨sv, D, h⟩ := h
    obtain ⟨h1, h2⟩ := h.lo hl
    exact ⟨⟨sv, D, h1⟩, h2⟩
theorem envM (g : Gr) (T : ByteArray) (tv : Value) (P : Pm) (N : Nat) : Envx (List St) T P.m 1 N (ruleM P) tv (JM g T tv P N) (XM P) where
  c0 h := (envM2 g T tv P N).c0 h
  c1 h := (envM2 g T tv P N).c1 h
  c2 h := (envM2 g T tv P N).c2 h
  bx h hx := (envM2 g T tv P N).bx h hx
  lt h := (envM2 g T tv P N).lt h
  lo h hl := (envM2 g T tv P N).lo h hl
/-- What is known was turned. -/
theorem JX.known {g : Gr} {T : ByteArray} {tv : Value} {P : Pm} {N : Nat} {L Ls : List St} {W W' : World} {sv : Value} {D : DataW Unit} (h : JX g T tv P N (L, Ls) W sv D) {i p : Nat} {o : Ot} (hi : i ≤ 1000000) (hp : p ≤ 1000000) (hn : memo L i p = none)
    (ho : W'.ownsMap Try.prog 144 RO P.k (L.length + 1) (D.put (kl i p) (dO p o))) (hg : W.grownBy W' (some P.k)) : JX g T tv P N (L ++ [((i, p), o)], Ls) W' sv (D.put (kl i p) (dO p o)) ∧ Kpx (XM P) W W' := by
  have hj : JX g T tv P N (L ++ [((i, p), o)], Ls) W' sv (D.put (kl i p) (dO p o)) := ⟨h.gi.below ((Below.refl N W).grown hg h.lt (fun k hk => by cases hk; exact h.ge.2.1)), h.bm.kept hg (fun e => h.ge.2.2 (Option.some.inj e)), h.mp.put hi hp hn ho,
    ownsRow_blk h.rw (fun b hb => hg.block b (h.rw.lt b hb).2 (fun e => (h.ns b hb).2 (Option.some.inj e))), h.ns, h.ge, Nat.le_trans h.lt hg.size⟩
  refine ⟨hj, hg.os, hg.tape, hg.output, hg.size, fun k hk hx => ⟨hg.block k hk (fun e => hx ((h.x k).2 (.inr (.inl (Option.some.inj e))))), fun h3 => hx ((h.x k).2 ((hj.x k).1 h3))⟩⟩
/-- A step was written down. -/
theorem JX.step {g : Gr} {T : ByteArray} {tv : Value} {P : Pm} {N : Nat} {L Ls : List St} {W W' : World} {sv : Value} {D : DataW Unit} (h : JX g T tv P N (L, Ls) W sv D) {s2 : St} {H g2 cap : Nat} (hH : W.heap.size ≤ H)
    (ho : W'.ownsRow N 43 4 (.slice (some ⟨g2, 0, none⟩) (Ls.length + 1) cap) (Ls.length + 1) (stL (Ls ++ [s2]))) (hg : W.grownBy W' sv.ownBlock) (hor : sv.ownBlock = some g2 ∨ g2 = H) :
    BoxN W' P.m 98 (mmc g T P tv sv) ∧ JX g T tv P N (L, Ls ++ [s2]) (W'.setCell ⟨P.m, 5, none⟩ (.slice (some ⟨g2, 0, none⟩) (Ls.length + 1) cap)) (.slice (some ⟨g2, 0, none⟩) (Ls.length + 1) cap) D ∧ Kpx (XM P) W (W'.setCell ⟨P.m, 5, none⟩ (.slice (some ⟨g2, 0, none⟩) (Ls.length + 1) cap)) := by
  have hml : P.m < W.heap.size := h.bm.lt
  have hkl : P.k < W.heap.size := h.mp.own.lt
  have hm' : BoxN W' P.m 98 (mmc g T P tv sv) := h.bm.kept hg (fun e => (h.ns _ e.symm).1 rfl)
  have hns : g2 ≠ P.m ∧ g2 ≠ P.k := by
    rcases hor with hor | hor
    · exact h.ns _ hor
    · exact ⟨by omega, by omega⟩
  have hset : ∀ k, k ≠ P.m → (W'.setCell ⟨P.m, 5, none⟩ (.slice (some ⟨g2, 0, none⟩) (Ls.length + 1) cap)).heap[k]? = W'.heap[k]? := fun k hk => Below.heap_setCell W' ⟨P.m, 5, none⟩ _ k hk
  have hm2 : BoxN (W'.setCell ⟨P.m, 5, none⟩ (.slice (some ⟨g2, 0, none⟩) (Ls.length + 1) cap)) P.m 98 (mmc g T P tv (.slice (some ⟨g2, 0, none⟩) (Ls.length + 1) cap)) := by
    have := Go.Lib.heap_setCell_same (b := P.m) (i := 5) hm' (.slice (some ⟨g2, 0, none⟩) (Ls.length + 1) cap)
    exact this
  have hbl : Below N W (W'.setCell ⟨P.m, 5, none⟩ (.slice (some ⟨g2, 0, none⟩) (Ls.length + 1) cap)) := ((Below.refl N W).grown hg h.lt (fun k hk => (h.rw.lt k hk).1)).setCell h.ge.1 _
  have hj : JX g T tv P N (L, Ls ++ [s2]) (W'.setCell ⟨P.m, 5, none⟩ (.slice (some ⟨g2, 0, none⟩) (Ls.length + 1) cap)) (.slice (some ⟨g2, 0, none⟩) (Ls.length + 1) cap) D :=
    ⟨h.gi.below hbl, hm2, ⟨ownsMap_blk h.mp.own ((hset _ (fun e => h.ge.2.2 e.symm)).trans (hg.block _ hkl (fun e => (h.ns _ e.symm).2 rfl))), h.mp.has, h.mp.at_⟩,
      by simpa using ownsRow_blk ho (fun b hb => by cases hb; exact hset _ hns.1), fun b hb => by cases hb; exact hns, h.ge, Nat.le_trans h.lt hbl.size⟩
  refine ⟨hm', hj, hbl.os, hbl.tape, hbl.output, hbl.size, fun k hk hx => ?_⟩
  have hx' := fun h3 => hx ((h.x k).2 h3)
  refine ⟨(hset k (fun e => hx' (.inl e))).trans (hg.block k hk (fun e => hx' (.inr (.inr e.symm)))), fun h3 => ?_⟩
  rcases (hj.x k).1 h3 with h4 | h4 | h4
  · exact hx' (.inl h4)
  · exact hx' (.inr (.inl h4))
  · have h6 : g2 = k := by simpa [Value.ownBlock] using h4
    subst h6
    rcases hor with h5 | h5
    · exact hx' (.inr (.inr h5))
    · omega
end Go.Proofs.Ytokdaapmejccbaa
namespace Go.Proofs.Ytokdaapmejccbaa
open Go.RowKit
set_option linter.unusedVariables false
set_option linter.unusedSimpArgs false
theorem info144 : (Try.prog.info? 144).map (·.size) = some 2 := by kernel_rfl
theorem MO.box {σ : Type} {T : ByteArray} {tb tO N : Nat} {rv tv : Value} {J : σ → World → Prop} {X : World → Nat → Prop} (E : Envx σ T tb tO N rv tv J X) {x : σ} {w0 W W' : World} {B B' : Nat} {t : TypeId} {cs c1 c2 : Array Value} (h : MO N J X w0 B x cs W) (hb : Obt X w0 W B' t c1) (hne : B ≠ B') (hx : BoxN W' B' t c2) (hg : W.grownBy W' (some B')) : MO N J X w0 B x cs W' ∧ Obt X w0 W' B' t c2 := by
  obtain ⟨h1, h2⟩ := hb.store E h.m h.n hx hg
  obtain ⟨k1, k2, k3⟩ := Obt.other E h.m h.n (t := 29) ⟨h.o.box, h.o.no, h.o.ge⟩ hb hne hg
  exact ⟨⟨h1, ⟨k1, k2, k3⟩, h.n⟩, h2⟩
/-- In the middle of a rule's call. -/
structure Wk (g : Gr) (T : ByteArray) (tv : Value) (P : Pm) (N : Nat) (w0 : World) (x : St2) (sv : Value) (D : DataW Unit) (kcs : Array Value) (W : World) : Prop where
  mo : MO N (JM2 g T tv P N) (XM P) w0 w0.heap.size x #[.bool false, .int .i64 0] W
  jx : JX g T tv P N x W sv D
  kb : Obt (XM P) w0 W (w0.heap.size + 1) 144 kcs
section
variable {g : Gr} {T : ByteArray} {tv : Value} {P : Pm} {N : Nat} {w0 : World} {x : St2} {sv : Value} {D : DataW Unit} {kcs : Array Value} {W W' : World}
theorem Wk.below (h : Wk g T tv P N w0 x sv D kcs W) (hb : Below W.heap.size W W') : Wk g T tv P N w0 x sv D kcs W' :=
  ⟨h.mo.below (envM2 g T tv P N) hb, (h.jx.lo ⟨hb.os, hb.tape, hb.output, hb.size, fun k hk _ => hb.block k hk⟩).1, h.kb.below (envM2 g T tv P N) h.mo.m hb⟩
theorem Wk.alloc (h : Wk g T tv P N w0 x sv D kcs W) (o : Obj) : Wk g T tv P N w0 x sv D kcs (W.alloc o) := h.below ((Below.refl _ _).alloc (Nat.le_refl _) o)
theorem Wk.drew (h : Wk g T tv P N w0 x sv D kcs W) : Wk g T tv P N w0 x sv D kcs W.drew := h.below (Below.refl _ _).drew
theorem Wk.new (h : Wk g T tv P N w0 x sv D kcs W) (t : TypeId) (cs : Array Value) : Obt (XM P) w0 (W.alloc (.cells cs t)) W.heap.size t cs := Obt.new (envM2 g T tv P N) h.mo.m t cs
theorem Wk.box (h : Wk g T tv P N w0 x sv D kcs W) {B : Nat} {t : TypeId} {cs c2 : Array Value} (hb : Obt (XM P) w0 W B t cs) (h0 : w0.heap.size + 1 < B) (hx : BoxN W' B t c2) (hg : W.grownBy W' (some B)) : Wk g T tv P N w0 x sv D kcs W' ∧ Obt (XM P) w0 W' B t c2 := by
  obtain ⟨h1, h2⟩ := h.mo.box (envM2 g T tv P N) hb (by omega) hx hg
  exact ⟨⟨h1, (h.jx.lo (hb.lox h.mo.n hg)).1, Obt.other (envM2 g T tv P N) h.mo.m h.mo.n h.kb hb (by omega) hg⟩, h2⟩
theorem Wk.call {y : St2} {sv' : Value} {D' : DataW Unit} (h : Wk g T tv P N w0 x sv D kcs W) (hk : Kpx (XM P) W W') (hj : JX g T tv P N y W' sv' D') : Wk g T tv P N w0 y sv' D' kcs W' := ⟨h.mo.call hk ⟨_, _, hj⟩, hj, h.kb.call hk⟩
theorem Wk.fin (h : Wk g T tv P N w0 x sv D kcs W) {cs : Array Value} (hx : BoxN W' w0.heap.size 29 cs) (hg : W.grownBy W' (some w0.heap.size)) : Kpx (XM P) w0 W' ∧ JM2 g T tv P N x W' := by
  have := h.mo.store (envM2 g T tv P N) hx hg
  exact ⟨this.m.kp, this.m.j⟩
theorem Wk.key (h : Wk g T tv P N w0 x sv D kcs W) {c2 : Array Value} (hx : BoxN W' (w0.heap.size + 1) 144 c2) (hg : W.grownBy W' (some (w0.heap.size + 1))) : Wk g T tv P N w0 x sv D c2 W' := by
  obtain ⟨h1, h2⟩ := h.mo.box (envM2 g T tv P N) h.kb (by omega) hx hg
  exact ⟨h1, (h.jx.lo (h.kb.lox h.mo.n hg)).1, h2⟩
theorem Wk.c4 (h : Wk g T tv P N w0 x sv D kcs W) : W.cell? ⟨P.m, 4, none⟩ = some (.map (some P.k)) := h.jx.bm.cell 4
theorem Wk.c5 (h : Wk g T tv P N w0 x sv D kcs W) : W.cell? ⟨P.m, 5, none⟩ = some sv := h.jx.bm.cell 5
theorem Wk.c0 (h : Wk g T tv P N w0 x sv D kcs W) : W.cell? ⟨P.m, 0, none⟩ = some (.slice g.a g.rules.length g.c) := h.jx.bm.cell 0
end
theorem Obt.cells2 {X : World → Nat → Prop} {w0 W : World} {B : Nat} {t : TypeId} {a b : Value} (h : Obt X w0 W B t #[a, b]) : W.cell? ⟨B, 0, none⟩ = some a ∧ W.cell? ⟨B, 1, none⟩ = some b := ⟨h.box.cell 0, h.box.cell 1⟩
theorem run_bs (a b c d : Value) (w : World) : (Instr.buildSlice 38 1 #[(0, .agg #[a, b, c, d])]).run Try.prog w = .ok (.slice (some ⟨w.heap.size, 0, none⟩) 1 1) (w.alloc (.cells #[a, b, c, d] 43)) := by kernel_rfl
theorem wpList_bs {ops : Array Oper} {rest : List Oper} {o : Oper} {a : Act} {w : World} {Q : Exit → Act → World → Prop} (hgd : o.guard = none) (x : Operand) (ho : o.op = .buildSlice 38 1 #[(0, x)]) (b c d e : Value) (hx : a.eval x = .agg #[b, c, d, e])
    (h : wpList Try.prog ops Q rest (a.put o.dst (.slice (some ⟨w.heap.size, 0, none⟩) 1 1)) (w.alloc (.cells #[b, c, d, e] 43))) : wpList Try.prog ops Q (o :: rest) a w :=
  wpList_plain hgd fun K' hK' => by
    unfold Oper.wp execOp
    simp only [ho, Sem.run_bind, List.map_toArray, List.map_cons, List.map_nil, hx, run_bs, Result.andThen_ok]
    exact hK' _ _ h
theorem wpList_app_st {ops : Array Oper} {rest : List Oper} {o : Oper} {a : Act} {Q : Exit → Act → World → Prop} (hgd : o.guard = none) (s x : Operand)
    (ho : o.op = .call { callee := .builtin .append, args := #[s, x], argTypes := #[38, 38] }) {N : Nat} {w1 : World} {v : Value} {L : List St} {s2 : St} {cs : Array Value} (h : w1.ownsRow N 43 4 v L.length (stL L)) (hN : N ≤ w1.heap.size)
    (hs : a.eval s = v) {H : Nat} (hH : w1.heap.size = H) (hx : a.eval x = .slice (some ⟨H, 0, none⟩) 1 1) (hcs : cs.toList = stc s2) (hl : L.length ≤ 1000000)
    (hK : ∀ g3 cap3 w3, w3.ownsRow N 43 4 (.slice (some ⟨g3, 0, none⟩) (L.length + 1) cap3) (L.length + 1) (stL (L ++ [s2])) → (w1.alloc (.cells cs 43)).grownBy w3 v.ownBlock → (v.ownBlock = some g3 ∨ g3 = H + 1) → wpList Try.prog ops Q rest (a.put o.dst (.slice (some ⟨g3, 0, none⟩) (L.length + 1) cap3)) w3) :
    wpList Try.prog ops Q (o :: rest) a (w1.alloc (.cells cs 43)) := by
  obtain ⟨i0, hi, hz⟩ : ∃ i0, Try.prog.info? 43 = some i0 ∧ (i0.zero, i0.size, i0.bytes) = (some (.agg zs), 4, 32) := by
    simpa [Option.map_eq_some_iff] using info43
  simp only [Prod.mk.injEq] at hz
  obtain ⟨hz0, hz1, hz2⟩ := hz
  have h1 := h.kept (World.grownBy_alloc w1 (.cells cs 43) none) (by cases v.ownBlock <;> simp)
  have hnews := World.news_of_block (World.alloc_heap_new w1 (.cells cs 43))
  rw [hcs] at hnews
  subst hH
  refine wpList_append_lies _ hgd s x 38 ho N 43 i0 (.agg zs) 4 32 underlying38 hi hz0 hz1 hz2 rfl (by decide) v L.length (stL L) hs h1 ⟨w1.heap.size, 0, none⟩ 1 1 (stc s2) hx (stc_len s2) hnews (stc_one s2) (by omega) (by unfold maxLen; omega) (by omega) (by simp; omega) (w1.heap.size + 1) (by simp) ?_
  intro g3 cap3 w3 hown hgr hor _
  exact hK g3 cap3 w3 (by rw [stL_app]; exact hown) hgr hor
set_option maxRecDepth 20000 in
set_option maxHeartbeats 8000000 in
theorem rule_hit (g : Gr) (T : ByteArray) (hT : T.size ≤ 60) (tv : Value) (P : Pm) (N : Nat) (i p : Nat) (hi : i < g.rules.length) (hil : g.rules.length ≤ 1000000) (hp : p ≤ T.size) (L : List St) (w : World) (hJ : JM g T tv P N L w) (o : Ot) (hm : memo L i p = some o) :
    Calls Try.prog 47 #[.pointer (some ⟨P.m, 0, none⟩), .int .i64 (i : Int), .int .i64 (p : Int)] w (TryR (JM g T tv P N) (XM P) p (some (o, L)) w) := by
  obtain ⟨pm, pk⟩ := P
  have HM : Hid (MO N (JM2 g T tv ⟨pm, pk⟩ N) (XM ⟨pm, pk⟩) w w.heap.size (L, L) _ _) := MO.new (envM2 g T tv ⟨pm, pk⟩ N) hJ #[.bool false, .int .i64 0]
  obtain ⟨sv, D, hX⟩ := hJ
  have HK0 : Hid (Wk g T tv ⟨pm, pk⟩ N w (L, L) sv D #[.int .i64 0, .int .i64 0] ((w.alloc (.cells #[.bool false, .int .i64 0] 29)).alloc (.cells #[.int .i64 0, .int .i64 0] 144))) := by
    have hb : Below w.heap.size w (w.alloc (.cells #[.bool false, .int .i64 0] 29)) := (Below.refl _ _).alloc (Nat.le_refl _) _
    have hb2 : Below (w.alloc (.cells #[.bool false, .int .i64 0] 29)).heap.size (w.alloc (.cells #[.bool false, .int .i64 0] 29)) ((w.alloc (.cells #[.bool false, .int .i64 0] 29)).alloc (.cells #[.int .i64 0, .int .i64 0] 144)) := (Below.refl _ _).alloc (Nat.le_refl _) _
    have h1 := (hX.lo ⟨hb.os, hb.tape, hb.output, hb.size, fun k hk _ => hb.block k hk⟩).1
    have h2 := (h1.lo ⟨hb2.os, hb2.tape, hb2.output, hb2.size, fun k hk _ => hb2.block k hk⟩).1
    have h3 := Obt.new (envM2 g T tv ⟨pm, pk⟩ N) HM.out.m 144 #[.int .i64 0, .int .i64 0]
    rw [World.size_alloc] at h3
    exact ⟨HM.out.alloc (envM2 g T tv ⟨pm, pk⟩ N) _, h2, h3⟩
  have hlk := fun W (h : Mp pk L W D) => h.look (i := i) (p := p) (by omega) (by omega)
  rw [hm] at hlk
  unfold hitV kv oval at hlk
  unfold TryR
  simp only [Option.getD_some, Option.isSome_some] at hlk ⊢
  unfold oval
  obtain ⟨z, n, hzn⟩ := oc_form p o
  rw [hzn] at hlk ⊢
  go_enter Try.func47, Try.ntmps47
  go_wp2_with (refine wpList_store_box rfl 144 _ _ rfl (w.heap.size + 1) _ rfl rfl _ HK0.out.kb.box info144 rfl (by simp [Value.oneCell']) ?_; intro w1 hx1 hg1; have HW1 : Hid (Wk g T tv ⟨pm, pk⟩ N w (L, L) sv D #[.int .i64 (i : Int), .int .i64 (p : Int)] w1) := HK0.out.key hx1 hg1; clear hx1 hg1 HK0 HM)
  have hlt1 : w.heap.size + 1 < w1.heap.size := HW1.out.kb.box.lt
  have HW1 : Hid _ := HW1.out.drew
  refine wp_region_schA (fun W => W.cell? ⟨pm, 4, none⟩ = some (.map (some pk)) ∧ (W.cell? ⟨w.heap.size + 1, 0, none⟩ = some (.int .i64 (i : Int)) ∧ W.cell? ⟨w.heap.size + 1, 1, none⟩ = some (.int .i64 (p : Int))) ∧ Mp pk L W D) 12 9 [(0,true),(1,true),(2,true),(3,true),(4,true),(5,true),(6,true),(7,true),(8,true)] [(10,false),(11,true)] _ (by kernel_rfl) (by kernel_rfl) (fun h => absurd h (by decide)) (by kernel_rfl) rfl (fun c a d v w h => by cases d <;> exact h) ⟨HW1.out.c4, HW1.out.kb.cells2, HW1.out.jx.mp⟩ ?_
  iterate 9
    refine wpSchA_read rfl rfl ?_
    apply Exists.intro
    refine ⟨fun W hW => ?_, ?_⟩
    · obtain ⟨r1, ⟨r2, r3⟩, r4⟩ := hW; have r5 := hlk W r4
      go_simp
      with_reducible rfl
    show wpSchA _ _ _ _ _ _ _ _ (Act.put _ (some _) _) _
    simp only [Act.put, List.setIfInBounds_toArray, List.set_cons_zero, List.set_cons_succ]
  refine wpSchA_last rfl rfl (fun K hK => ?_)
  go_wp2_with fail
  have HO2 : Hid (Obt (XM ⟨pm, pk⟩) w _ w1.heap.size 29 #[.bool false, .int .i64 0]) := HW1.out.new 29 #[.bool false, .int .i64 0]
  have HW1 : Hid _ := HW1.out.alloc (.cells #[.bool false, .int .i64 0] 29)
  refine hK _ _ (fun _ => ⟨HW1.out.c4, HW1.out.kb.cells2, HW1.out.jx.mp⟩) ?_
  clear hK K
  refine wpSch_list rfl rfl (fun K hK => ?_)
  go_wp2_with (refine wpList_store_box rfl 29 _ _ rfl w1.heap.size _ rfl rfl _ HO2.out.box Try.info29 rfl (by simp [Value.oneCell']) ?_; intro w2 hx2 hg2; have HP2 : Hid _ := HW1.out.box HO2.out hlt1 hx2 hg2; clear hx2 hg2)
  have HW2 : Hid _ := HP2.out.1
  have HO3 : Hid _ := HP2.out.2
  refine hK _ _ (fun _ => ⟨HW2.out.c4, HW2.out.kb.cells2, HW2.out.jx.mp⟩) ?_
  clear hK K
  iterate 1
    refine wpSch_read rfl rfl ?_
    apply Exists.intro
    refine ⟨fun W hW => ?_, ?_⟩
    · obtain ⟨r1, ⟨r2, r3⟩, r4⟩ := hW
      go_simp
      with_reducible rfl
    show wpSch _ _ _ _ _ _ (Act.put _ (some _) _) _
    simp only [Act.put, List.setIfInBounds_toArray, List.set_cons_zero, List.set_cons_succ]
  unfold wpSch
  clear HP2 HW1 HO2
  have b0 := HO3.out.cells2.1
  have b1 := HO3.out.cells2.2
  go_wp2_with (refine wpList_store_box rfl 29 _ _ rfl w.heap.size _ rfl rfl _ HW2.out.mo.o.box Try.info29 rfl (by simp [Value.oneCell']) ?_; intro w5 hx5 hg5; have hc := hx5.cell; have HF : Hid _ := HW2.out.fin hx5 hg5)
  exact bodyPost_ret (by simp [results, Try.results47, go_sem, hc]) rfl ⟨rfl, HF.out.1, HF.out.2⟩
set_option maxRecDepth 20000 in
set_option maxHeartbeats 8000000 in
theorem rule_thrown (g : Gr) (T : ByteArray) (hT : T.size ≤ 60) (tv : Value) (P : Pm) (N : Nat) (i p : Nat) (hi : i < g.rules.length) (hil : g.rules.length ≤ 1000000) (hp : p ≤ T.size) (L : List St) (w : World) (hJ : JM g T tv P N L w) (r0 : ByteArray × Ex) (hr0 : g.rules[i]? = some r0) (hm : memo L i p = none) (hT5 : ∀ (nb no : Nat) (W : World), Below N w W → Nd0 N W r0.2 nb no → JM g T tv P N L W → Calls Try.prog 74 #[.pointer (some ⟨P.m, 1, none⟩), .pointer (some ⟨nb, no, none⟩), .int .i64 (p : Int)] W (TryR (JM g T tv P N) (XM P) p none W)) :
    Calls Try.prog 47 #[.pointer (some ⟨P.m, 0, none⟩), .int .i64 (i : Int), .int .i64 (p : Int)] w (TryR (JM g T tv P N) (XM P) p none w) := by
  obtain ⟨pm, pk⟩ := P
  have HM : Hid (MO N (JM2 g T tv ⟨pm, pk⟩ N) (XM ⟨pm, pk⟩) w w.heap.size (L, L) _ _) := MO.new (envM2 g T tv ⟨pm, pk⟩ N) hJ #[.bool false, .int .i64 0]
  have hJ0 := hJ
  obtain ⟨sv, D, hX⟩ := hJ
  have HK0 : Hid (Wk g T tv ⟨pm, pk⟩ N w (L, L) sv D #[.int .i64 0, .int .i64 0] ((w.alloc (.cells #[.bool false, .int .i64 0] 29)).alloc (.cells #[.int .i64 0, .int .i64 0] 144))) := by
    have hb : Below w.heap.size w (w.alloc (.cells #[.bool false, .int .i64 0] 29)) := (Below.refl _ _).alloc (Nat.le_refl _) _
    have hb2 : Below (w.alloc (.cells #[.bool false, .int .i64 0] 29)).heap.size (w.alloc (.cells #[.bool false, .int .i64 0] 29)) ((w.alloc (.cells #[.bool false, .int .i64 0] 29)).alloc (.cells #[.int .i64 0, .int .i64 0] 144)) := (Below.refl _ _).alloc (Nat.le_refl _) _
    have h1 := (hX.lo ⟨hb.os, hb.tape, hb.output, hb.size, fun k hk _ => hb.block k hk⟩).1
    have h2 := (h1.lo ⟨hb2.os, hb2.tape, hb2.output, hb2.size, fun k hk _ => hb2.block k hk⟩).1
    have h3 := Obt.new (envM2 g T tv ⟨pm, pk⟩ N) HM.out.m 144 #[.int .i64 0, .int .i64 0]
    rw [World.size_alloc] at h3
    exact ⟨HM.out.alloc (envM2 g T tv ⟨pm, pk⟩ N) _, h2, h3⟩
  have hlk := fun W (h : Mp pk L W D) => h.look (i := i) (p := p) (by omega) (by omega)
  rw [hm] at hlk
  unfold hitV kv oval at hlk
  have hru := hX.gi.rule i r0 hr0
  obtain ⟨gb, go, hga, hgl, hgc⟩ := hru.lies
  have HT : Hid (∀ W, JM g T tv ⟨pm, pk⟩ N L W → Below N w W → _) := fun W hj hlow => hT5 gb (go + i * 8 + 1) W hlow ⟨hru.body.below hlow, hgl, fun m hm => by
      have h1 := hgc (m + 1) (by omega)
      rw [show go + i * 8 + (m + 1) = go + i * 8 + 1 + m from by omega] at h1
      rw [hlow.cell (p := ⟨gb, go + i * 8 + 1 + m, none⟩) hgl, h1]
      match m, hm with
      | 0, _ => rfl
      | 1, _ => rfl
      | 2, _ => rfl
      | 3, _ => rfl
      | 4, _ => rfl
      | 5, _ => rfl
      | 6, _ => rfl⟩ hj
  have HC : Hid (∀ (x : St2) sv D kcs W, Wk g T tv ⟨pm, pk⟩ N w x sv D kcs W → W.cell? ⟨pm, 0, none⟩ = some (.slice (some ⟨gb, go, none⟩) g.rules.length g.c)) := fun x sv D kcs W h => by
    have := h.c0
    rw [hga] at this
    exact this
  have HL : Hid (∀ (x : St2) sv D kcs W, Wk g T tv ⟨pm, pk⟩ N w x sv D kcs W → Below N w W) := fun x sv D kcs W h => h.mo.m.kp.low (envM2 g T tv ⟨pm, pk⟩ N) hJ0
  simp only [Option.getD_none, Option.isSome_none] at hlk
  unfold ocells at hlk
  clear hgc hru hT5 hJ0 hX hm hr0
  unfold TryR thrownV at HT ⊢
  simp only at HT ⊢
  go_enter Try.func47, Try.ntmps47
  go_wp2_with (refine wpList_store_box rfl 144 _ _ rfl (w.heap.size + 1) _ rfl rfl _ HK0.out.kb.box info144 rfl (by simp [Value.oneCell']) ?_; intro w1 hx1 hg1; have HW1 : Hid (Wk g T tv ⟨pm, pk⟩ N w (L, L) sv D #[.int .i64 (i : Int), .int .i64 (p : Int)] w1) := HK0.out.key hx1 hg1; clear hx1 hg1 HK0 HM)
  have hlt1 : w.heap.size + 1 < w1.heap.size := HW1.out.kb.box.lt
  have HW1 : Hid _ := HW1.out.drew
  refine wp_region_schA (fun W => W.cell? ⟨pm, 4, none⟩ = some (.map (some pk)) ∧ (W.cell? ⟨w.heap.size + 1, 0, none⟩ = some (.int .i64 (i : Int)) ∧ W.cell? ⟨w.heap.size + 1, 1, none⟩ = some (.int .i64 (p : Int))) ∧ Mp pk L W D) 12 9 [(0,true),(1,true),(2,true),(3,true),(4,true),(5,true),(6,true),(7,true),(8,true)] [(10,false),(11,true)] _ (by kernel_rfl) (by kernel_rfl) (fun h => absurd h (by decide)) (by kernel_rfl) rfl (fun c a d v w h => by cases d <;> exact h) ⟨HW1.out.c4, HW1.out.kb.cells2, HW1.out.jx.mp⟩ ?_
  iterate 9
    refine wpSchA_read rfl rfl ?_
    apply Exists.intro
    refine ⟨fun W hW => ?_, ?_⟩
    · obtain ⟨r1, ⟨r2, r3⟩, r4⟩ := hW; have r5 := hlk W r4
      go_simp
      with_reducible rfl
    show wpSchA _ _ _ _ _ _ _ _ (Act.put _ (some _) _) _
    simp only [Act.put, List.setIfInBounds_toArray, List.set_cons_zero, List.set_cons_succ]
  refine wpSchA_last rfl rfl (fun K hK => ?_)
  go_wp2_with fail
  have HO2 : Hid (Obt (XM ⟨pm, pk⟩) w _ w1.heap.size 29 #[.bool false, .int .i64 0]) := HW1.out.new 29 #[.bool false, .int .i64 0]
  have HW1 : Hid _ := HW1.out.alloc (.cells #[.bool false, .int .i64 0] 29)
  refine hK _ _ (fun _ => ⟨HW1.out.c4, HW1.out.kb.cells2, HW1.out.jx.mp⟩) ?_
  clear hK K
  refine wpSch_list rfl rfl (fun K hK => ?_)
  go_wp2_with (refine wpList_store_box rfl 29 _ _ rfl w1.heap.size _ rfl rfl _ HO2.out.box Try.info29 rfl (by simp [Value.oneCell']) ?_; intro w2 hx2 hg2; have HP2 : Hid _ := HW1.out.box HO2.out hlt1 hx2 hg2; clear hx2 hg2)
  have HW2 : Hid _ := HP2.out.1
  have HO3 : Hid _ := HP2.out.2
  refine hK _ _ (fun _ => ⟨HW2.out.c4, HW2.out.kb.cells2, HW2.out.jx.mp⟩) ?_
  clear hK K
  iterate 1
    refine wpSch_read rfl rfl ?_
    apply Exists.intro
    refine ⟨fun W hW => ?_, ?_⟩
    · obtain ⟨r1, ⟨r2, r3⟩, r4⟩ := hW
      go_simp
      with_reducible rfl
    show wpSch _ _ _ _ _ _ (Act.put _ (some _) _) _
    simp only [Act.put, List.setIfInBounds_toArray, List.set_cons_zero, List.set_cons_succ]
  unfold wpSch
  clear HP2 HW1 HO2
  go_wp2_with fail
  have HW2 : Hid _ := HW2.out.drew
  refine wp_region_schA (fun W => W.cell? ⟨pm, 0, none⟩ = some (.slice (some ⟨gb, go, none⟩) g.rules.length g.c)) 15 13 [(0,true),(1,true),(2,true),(3,true),(4,true),(5,true),(6,true),(7,true),(8,true),(9,true),(10,true),(11,true),(12,false)] [(14,false)] _ (by kernel_rfl) (by kernel_rfl) (fun h => absurd h (by decide)) (by kernel_rfl) rfl (fun c a d v w h => by cases d <;> exact h) (HC.out _ _ _ _ _ HW2.out) ?_
  iterate 12
    refine wpSchA_read rfl rfl ?_
    apply Exists.intro
    refine ⟨fun W hW => ?_, ?_⟩
    · have r1 := hW
      go_simp
      with_reducible rfl
    show wpSchA _ _ _ _ _ _ _ _ (Act.put _ (some _) _) _
    simp only [Act.put, List.setIfInBounds_toArray, List.set_cons_zero, List.set_cons_succ]
  refine wpSchA_list rfl rfl rfl rfl (fun K hK => ?_) (fun K hK => ?_)
  · have hcl := HT.out _ HW2.out.mo.m.j (HL.out _ _ _ _ _ HW2.out)
    go_wp2_with (go_at_call 74; refine hcl.mono ?_; rintro e1 W3 ⟨rfl, hk3, hj3⟩)
    exact ⟨rfl, rfl, HW2.out.mo.m.kp.trans hk3, hj3⟩
  · go_wp2_with fail
    have HO4 : Hid (Obt (XM ⟨pm, pk⟩) w _ w2.heap.size 29 #[.bool false, .int .i64 0]) := HW2.out.new 29 #[.bool false, .int .i64 0]
    have HW2 : Hid _ := HW2.out.alloc (.cells #[.bool false, .int .i64 0] 29)
    refine hK _ _ (fun _ => HC.out _ _ _ _ _ HW2.out) ?_
    clear hK K
    simp only [List.cons_append, List.nil_append]
    have hcl := HT.out _ HW2.out.mo.m.j (HL.out _ _ _ _ _ HW2.out)
    refine wpSch_list rfl rfl (fun K hK => ?_)
    go_wp2_with (go_at_call 74; refine hcl.mono ?_; rintro e1 W3 ⟨rfl, hk3, hj3⟩)
    exact ⟨rfl, rfl, HW2.out.mo.m.kp.trans hk3, hj3⟩
set_option maxRecDepth 20000 in
set_option maxHeartbeats 8000000 in
theorem rule_come (g : Gr) (T : ByteArray) (hT : T.size ≤ 60) (tv : Value) (P : Pm) (N : Nat) (i p : Nat) (hi : i < g.rules.length) (hil : g.rules.length ≤ 1000000) (hp : p ≤ T.size) (L : List St) (w : World) (hJ : JM g T tv P N L w) (r0 : ByteArray × Ex) (hr0 : g.rules[i]? = some r0) (hm : memo L i p = none) (o : Ot) (M : List St) (hR : Rm (M ++ [((i, p), o)]) = true) (hT5 : ∀ (nb no : Nat) (W : World), Below N w W → Nd0 N W r0.2 nb no → JM g T tv P N L W → Calls Try.prog 74 #[.pointer (some ⟨P.m, 1, none⟩), .pointer (some ⟨nb, no, none⟩), .int .i64 (p : Int)] W (TryR (JM g T tv P N) (XM P) p (some (o, M)) W)) :
    Calls Try.prog 47 #[.pointer (some ⟨P.m, 0, none⟩), .int .i64 (i : Int), .int .i64 (p : Int)] w (TryR (JM g T tv P N) (XM P) p (some (o, M ++ [((i, p), o)])) w) := by
  obtain ⟨pm, pk⟩ := P
  have HM : Hid (MO N (JM2 g T tv ⟨pm, pk⟩ N) (XM ⟨pm, pk⟩) w w.heap.size (L, L) _ _) := MO.new (envM2 g T tv ⟨pm, pk⟩ N) hJ #[.bool false, .int .i64 0]
  have hJ0 := hJ
  obtain ⟨sv, D, hX⟩ := hJ
  have HK0 : Hid (Wk g T tv ⟨pm, pk⟩ N w (L, L) sv D #[.int .i64 0, .int .i64 0] ((w.alloc (.cells #[.bool false, .int .i64 0] 29)).alloc (.cells #[.int .i64 0, .int .i64 0] 144))) := by
    have hb : Below w.heap.size w (w.alloc (.cells #[.bool false, .int .i64 0] 29)) := (Below.refl _ _).alloc (Nat.le_refl _) _
    have hb2 : Below (w.alloc (.cells #[.bool false, .int .i64 0] 29)).heap.size (w.alloc (.cells #[.bool false, .int .i64 0] 29)) ((w.alloc (.cells #[.bool false, .int .i64 0] 29)).alloc (.cells #[.int .i64 0, .int .i64 0] 144)) := (Below.refl _ _).alloc (Nat.le_refl _) _
    have h1 := (hX.lo ⟨hb.os, hb.tape, hb.output, hb.size, fun k hk _ => hb.block k hk⟩).1
    have h2 := (h1.lo ⟨hb2.os, hb2.tape, hb2.output, hb2.size, fun k hk _ => hb2.block k hk⟩).1
    have h3 := Obt.new (envM2 g T tv ⟨pm, pk⟩ N) HM.out.m 144 #[.int .i64 0, .int .i64 0]
    rw [World.size_alloc] at h3
    exact ⟨HM.out.alloc (envM2 g T tv ⟨pm, pk⟩ N) _, h2, h3⟩
  have hlk := fun W (h : Mp pk L W D) => h.look (i := i) (p := p) (by omega) (by omega)
  rw [hm] at hlk
  unfold hitV kv oval at hlk
  have hru := hX.gi.rule i r0 hr0
  obtain ⟨gb, go, hga, hgl, hgc⟩ := hru.lies
  have HT : Hid (∀ W, JM g T tv ⟨pm, pk⟩ N L W → Below N w W → _) := fun W hj hlow => hT5 gb (go + i * 8 + 1) W hlow ⟨hru.body.below hlow, hgl, fun m hm => by
      have h1 := hgc (m + 1) (by omega)
      rw [show go + i * 8 + (m + 1) = go + i * 8 + 1 + m from by omega] at h1
      rw [hlow.cell (p := ⟨gb, go + i * 8 + 1 + m, none⟩) hgl, h1]
      match m, hm with
      | 0, _ => rfl
      | 1, _ => rfl
      | 2, _ => rfl
      | 3, _ => rfl
      | 4, _ => rfl
      | 5, _ => rfl
      | 6, _ => rfl⟩ hj
  have HC : Hid (∀ (x : St2) sv D kcs W, Wk g T tv ⟨pm, pk⟩ N w x sv D kcs W → W.cell? ⟨pm, 0, none⟩ = some (.slice (some ⟨gb, go, none⟩) g.rules.length g.c)) := fun x sv D kcs W h => by
    have := h.c0
    rw [hga] at this
    exact this
  have HL : Hid (∀ (x : St2) sv D kcs W, Wk g T tv ⟨pm, pk⟩ N w x sv D kcs W → Below N w W) := fun x sv D kcs W h => h.mo.m.kp.low (envM2 g T tv ⟨pm, pk⟩ N) hJ0
  simp only [Option.getD_none, Option.isSome_none] at hlk
  unfold ocells at hlk
  clear hgc hru hT5 hJ0 hX hm hr0
  obtain ⟨hmn, hml1⟩ := Rm_new hR
  have hi6 : i ≤ 1000000 := by omega
  have hp6 : p ≤ 1000000 := by omega
  have hml : M.length < maxLen := by unfold maxLen; omega
  have hml2 : M.length ≤ 1000000 := by omega
  have hky := key_mk hi6 hp6
  unfold kv at hky
  have hro := RO_mk p o
  have hst : stc ((i, p), o) = [.int .i64 (i : Int), .int .i64 (p : Int)] ++ (ocells p o).toList := rfl
  unfold TryR at HT ⊢
  simp only at HT ⊢
  unfold oval at HT hro ⊢
  obtain ⟨z, n, hzn⟩ := oc_form p o
  rw [hzn] at HT hst hro ⊢
  have HSTC : Hid ((#[.int .i64 (i : Int), .int .i64 (p : Int), .bool z, .int .i64 n] : Array Value).toList = stc ((i, p), o)) := hst.symm
  clear hzn hst hR hml1
  go_enter Try.func47, Try.ntmps47
  go_wp2_with (refine wpList_store_box rfl 144 _ _ rfl (w.heap.size + 1) _ rfl rfl _ HK0.out.kb.box info144 rfl (by simp [Value.oneCell']) ?_; intro w1 hx1 hg1; have HW1 : Hid (Wk g T tv ⟨pm, pk⟩ N w (L, L) sv D #[.int .i64 (i : Int), .int .i64 (p : Int)] w1) := HK0.out.key hx1 hg1; clear hx1 hg1 HK0 HM)
  have hlt1 : w.heap.size + 1 < w1.heap.size := HW1.out.kb.box.lt
  have HW1 : Hid _ := HW1.out.drew
  refine wp_region_schA (fun W => W.cell? ⟨pm, 4, none⟩ = some (.map (some pk)) ∧ (W.cell? ⟨w.heap.size + 1, 0, none⟩ = some (.int .i64 (i : Int)) ∧ W.cell? ⟨w.heap.size + 1, 1, none⟩ = some (.int .i64 (p : Int))) ∧ Mp pk L W D) 12 9 [(0,true),(1,true),(2,true),(3,true),(4,true),(5,true),(6,true),(7,true),(8,true)] [(10,false),(11,true)] _ (by kernel_rfl) (by kernel_rfl) (fun h => absurd h (by decide)) (by kernel_rfl) rfl (fun c a d v w h => by cases d <;> exact h) ⟨HW1.out.c4, HW1.out.kb.cells2, HW1.out.jx.mp⟩ ?_
  iterate 9
    refine wpSchA_read rfl rfl ?_
    apply Exists.intro
    refine ⟨fun W hW => ?_, ?_⟩
    · obtain ⟨r1, ⟨r2, r3⟩, r4⟩ := hW; have r5 := hlk W r4
      go_simp
      with_reducible rfl
    show wpSchA _ _ _ _ _ _ _ _ (Act.put _ (some _) _) _
    simp only [Act.put, List.setIfInBounds_toArray, List.set_cons_zero, List.set_cons_succ]
  refine wpSchA_last rfl rfl (fun K hK => ?_)
  go_wp2_with fail
  have HO2 : Hid (Obt (XM ⟨pm, pk⟩) w _ w1.heap.size 29 #[.bool false, .int .i64 0]) := HW1.out.new 29 #[.bool false, .int .i64 0]
  have HW1 : Hid _ := HW1.out.alloc (.cells #[.bool false, .int .i64 0] 29)
  refine hK _ _ (fun _ => ⟨HW1.out.c4, HW1.out.kb.cells2, HW1.out.jx.mp⟩) ?_
  clear hK K
  refine wpSch_list rfl rfl (fun K hK => ?_)
  go_wp2_with (refine wpList_store_box rfl 29 _ _ rfl w1.heap.size _ rfl rfl _ HO2.out.box Try.info29 rfl (by simp [Value.oneCell']) ?_; intro w2 hx2 hg2; have HP2 : Hid _ := HW1.out.box HO2.out hlt1 hx2 hg2; clear hx2 hg2)
  have HW2 : Hid _ := HP2.out.1
  have HO3 : Hid _ := HP2.out.2
  refine hK _ _ (fun _ => ⟨HW2.out.c4, HW2.out.kb.cells2, HW2.out.jx.mp⟩) ?_
  clear hK K
  iterate 1
    refine wpSch_read rfl rfl ?_
    apply Exists.intro
    refine ⟨fun W hW => ?_, ?_⟩
    · obtain ⟨r1, ⟨r2, r3⟩, r4⟩ := hW
      go_simp
      with_reducible rfl
    show wpSch _ _ _ _ _ _ (Act.put _ (some _) _) _
    simp only [Act.put, List.setIfInBounds_toArray, List.set_cons_zero, List.set_cons_succ]
  unfold wpSch
  clear HP2 HW1 HO2
  go_wp2_with fail
  have HW2 : Hid _ := HW2.out.drew
  refine wp_region_schA (fun W => W.cell? ⟨pm, 0, none⟩ = some (.slice (some ⟨gb, go, none⟩) g.rules.length g.c)) 15 13 [(0,true),(1,true),(2,true),(3,true),(4,true),(5,true),(6,true),(7,true),(8,true),(9,true),(10,true),(11,true),(12,false)] [(14,false)] _ (by kernel_rfl) (by kernel_rfl) (fun h => absurd h (by decide)) (by kernel_rfl) rfl (fun c a d v w h => by cases d <;> exact h) (HC.out _ _ _ _ _ HW2.out) ?_
  iterate 12
    refine wpSchA_read rfl rfl ?_
    apply Exists.intro
    refine ⟨fun W hW => ?_, ?_⟩
    · have r1 := hW
      go_simp
      with_reducible rfl
    show wpSchA _ _ _ _ _ _ _ _ (Act.put _ (some _) _) _
    simp only [Act.put, List.setIfInBounds_toArray, List.set_cons_zero, List.set_cons_succ]
  refine wpSchA_list rfl rfl rfl rfl (fun K hK => ?_) (fun K hK => ?_)
  · have hcl := HT.out _ HW2.out.mo.m.j (HL.out _ _ _ _ _ HW2.out)
    go_wp2_with (go_at_call 74; refine hcl.mono ?_; rintro e1 W3 ⟨rfl, hk3, sv3, D3, hj3⟩)
    have HW3 : Hid _ := HW2.out.call hk3 hj3
    refine hK _ _ (fun _ => HC.out _ _ _ _ _ HW3.out) ?_
    clear hK K
    clear hk3 hj3 hcl
    refine wpSchA_last rfl rfl (fun K hK => ?_)
    have HLT := HW3.out.kb.box.lt
    go_wp2_with fail
    have HO4 : Hid (Obt (XM ⟨pm, pk⟩) w _ W3.heap.size 29 #[.bool false, .int .i64 0]) := HW3.out.new 29 #[.bool false, .int .i64 0]
    have HW3 : Hid _ := HW3.out.alloc (.cells #[.bool false, .int .i64 0] 29)
    refine hK _ _ (fun _ => HC.out _ _ _ _ _ HW3.out) ?_
    clear hK K
    refine wpSch_list rfl rfl (fun K hK => ?_)
    have hlt4 : w.heap.size + 1 < W3.heap.size := HLT
    go_wp2_with (refine wpList_store_box rfl 29 _ _ rfl W3.heap.size _ rfl rfl _ HO4.out.box Try.info29 rfl (by simp [Value.oneCell']) ?_; intro w4 hx4 hg4; have HP4 : Hid _ := HW3.out.box HO4.out hlt4 hx4 hg4; clear hx4 hg4)
    have HW4 : Hid _ := HP4.out.1
    have HO5 : Hid _ := HP4.out.2
    refine hK _ _ (fun _ => HC.out _ _ _ _ _ HW4.out) ?_
    clear hK K
    generalize W3.heap.size = B4 at *
    unfold wpSch
    clear HP4 HW3 HO4 HT HW2
    go_wp2_with fail
    have HW4 : Hid _ := HW4.out.drew
    have HO5 : Hid (Obt (XM ⟨pm, pk⟩) w w4.drew B4 29 #[.bool z, .int .i64 n]) := ⟨HO5.out.box, HO5.out.no, HO5.out.ge⟩
    refine wp_region_sch (fun W => W.cell? ⟨pm, 4, none⟩ = some (.map (some pk)) ∧ (W.cell? ⟨w.heap.size + 1, 0, none⟩ = some (.int .i64 (i : Int)) ∧ W.cell? ⟨w.heap.size + 1, 1, none⟩ = some (.int .i64 (p : Int))) ∧ (W.cell? ⟨B4, 0, none⟩ = some (.bool z) ∧ W.cell? ⟨B4, 1, none⟩ = some (.int .i64 n))) 6 [(0,true),(1,true),(2,true),(3,true),(4,true),(5,true),(6,false)] _ (by kernel_rfl) (by kernel_rfl) (fun _ => by kernel_rfl) (by kernel_rfl) rfl (fun c a d v w h => by cases d <;> exact h) ⟨HW4.out.c4, HW4.out.kb.cells2, HO5.out.cells2⟩ ?_
    iterate 6
      refine wpSch_read rfl rfl ?_
      apply Exists.intro
      refine ⟨fun W hW => ?_, ?_⟩
      · obtain ⟨r1, ⟨r2, r3⟩, r4, r5⟩ := hW
        go_simp
        with_reducible rfl
      show wpSch _ _ _ _ _ _ (Act.put _ (some _) _) _
      simp only [Act.put, List.setIfInBounds_toArray, List.set_cons_zero, List.set_cons_succ]
    refine wpSch_list rfl rfl (fun K hK => ?_)
    obtain ⟨w6, hmu, ho6, hg6⟩ := HW4.out.jx.mp.own.update law144 underlying96 hml hky hro
    go_wp2_with fail
    have HQ : Hid _ := HW4.out.jx.known hi6 hp6 hmn ho6 hg6
    have HW6 : Hid _ := HW4.out.call HQ.out.2 HQ.out.1
    have HO6 : Hid _ := HO5.out.call HQ.out.2
    refine hK _ _ (fun h => absurd rfl h) ?_
    clear hK K ho6 hg6 HQ HO5 HW4
    unfold wpSch
    go_wp2_with fail
    have HW6 : Hid _ := HW6.out.drew
    have HO6 : Hid (Obt (XM ⟨pm, pk⟩) w w6.drew B4 29 #[.bool z, .int .i64 n]) := ⟨HO6.out.box, HO6.out.no, HO6.out.ge⟩
    refine wp_region_schA (fun W => W.cell? ⟨B4, 0, none⟩ = some (.bool z) ∧ W.cell? ⟨B4, 1, none⟩ = some (.int .i64 n)) 14 9 [(0,true),(1,true),(2,true),(3,true),(5,true),(6,true),(7,true),(8,true),(4,false)] [(10,false),(11,true),(12,true),(13,false)] _ (by kernel_rfl) (by kernel_rfl) (fun h => absurd h (by decide)) (by kernel_rfl) rfl (fun c a d v w h => by cases d <;> exact h) HO6.out.cells2 ?_
    iterate 8
      refine wpSchA_read rfl rfl ?_
      apply Exists.intro
      refine ⟨fun W hW => ?_, ?_⟩
      · obtain ⟨r1, r2⟩ := hW
        go_simp
        with_reducible rfl
      show wpSchA _ _ _ _ _ _ _ _ (Act.put _ (some _) _) _
      simp only [Act.put, List.setIfInBounds_toArray, List.set_cons_zero, List.set_cons_succ]
    refine wpSchA_list rfl rfl rfl rfl (fun K hK => ?_) (fun K hK => ?_)
    · have q5 := HW6.out.c5
      go_wp2_with fail
      refine hK _ _ (fun _ => HO6.out.cells2) ?_
      clear hK K
      clear q5
      refine wpSchA_last rfl rfl (fun K hK => ?_)
      go_wp2_with (refine wpList_bs rfl _ rfl (.int .i64 (i : Int)) (.int .i64 (p : Int)) (.bool z) (.int .i64 n) rfl ?_)
      have HO6 : Hid (Obt (XM ⟨pm, pk⟩) w _ B4 29 #[.bool z, .int .i64 n]) := HO6.out.below (envM2 g T tv ⟨pm, pk⟩ N) HW6.out.mo.m ((Below.refl _ _).alloc (Nat.le_refl _) (.cells #[.int .i64 (i : Int), .int .i64 (p : Int), .bool z, .int .i64 n] 43))
      have HWb : Hid _ := HW6
      have HW6 : Hid _ := HW6.out.alloc (.cells #[.int .i64 (i : Int), .int .i64 (p : Int), .bool z, .int .i64 n] 43)
      refine hK _ _ (fun _ => HO6.out.cells2) ?_
      clear hK K
      refine wpSch_list rfl rfl (fun K hK => ?_)
      go_wp2_with (refine wpList_app_st rfl _ _ rfl HWb.out.jx.rw HWb.out.jx.lt rfl (H := w6.heap.size) rfl rfl (s2 := ((i, p), o)) HSTC.out hml2 ?_; intro g3 cap3 w7 ho7 hg7 hor7)
      have HJ : Hid _ := HW6.out.jx.step (s2 := ((i, p), o)) (H := w6.heap.size + 1) (by simp) ho7 hg7 hor7
      have HB7 : Hid (BoxN w7 B4 29 #[.bool z, .int .i64 n]) := HO6.out.box.kept hg7 (fun e => HO6.out.no ((HW6.out.jx.x _).2 (.inr (.inr e.symm))))
      refine hK _ _ (fun _ => ⟨HB7.out.cell 0, HB7.out.cell 1⟩) ?_
      clear hK K
      iterate 2
        refine wpSch_read rfl rfl ?_
        apply Exists.intro
        refine ⟨fun W hW => ?_, ?_⟩
        · obtain ⟨r1, r2⟩ := hW
          go_simp
          with_reducible rfl
        show wpSch _ _ _ _ _ _ (Act.put _ (some _) _) _
        simp only [Act.put, List.setIfInBounds_toArray, List.set_cons_zero, List.set_cons_succ]
      have q5 : w7.cell? ⟨pm, 5, none⟩ = _ := HJ.out.1.cell 5
      have f5 := HJ.out.1.frozen 5
      unfold mmc at q5
      simp only [List.getElem?_toArray, List.getElem?_cons_zero, List.getElem?_cons_succ] at q5
      refine wpSch_list rfl rfl (fun K hK => ?_)
      go_wp2_with fail
      have HW8 : Hid _ := HW6.out.call HJ.out.2.2 HJ.out.2.1
      have HO8 : Hid _ := HO6.out.call HJ.out.2.2
      refine hK _ _ (fun _ => HO8.out.cells2) ?_
      clear hK K
      clear q5 f5 HJ HW6 HWb HO6 ho7 hg7 HB7
      unfold wpSch
      have b0 := HO8.out.cells2.1
      have b1 := HO8.out.cells2.2
      go_wp2_with (refine wpList_store_box rfl 29 _ _ rfl w.heap.size _ rfl rfl _ HW8.out.mo.o.box Try.info29 rfl (by simp [Value.oneCell']) ?_; intro w9 hx9 hg9; have hc := hx9.cell; have HF : Hid _ := HW8.out.fin hx9 hg9)
      exact bodyPost_ret (by simp [results, Try.results47, go_sem, hc]) rfl ⟨rfl, HF.out.1, HF.out.2⟩
    · go_wp2_with (refine wpList_bs rfl _ rfl (.int .i64 (i : Int)) (.int .i64 (p : Int)) (.bool z) (.int .i64 n) rfl ?_)
      have HO6 : Hid (Obt (XM ⟨pm, pk⟩) w _ B4 29 #[.bool z, .int .i64 n]) := HO6.out.below (envM2 g T tv ⟨pm, pk⟩ N) HW6.out.mo.m ((Below.refl _ _).alloc (Nat.le_refl _) (.cells #[.int .i64 (i : Int), .int .i64 (p : Int), .bool z, .int .i64 n] 43))
      have HWb : Hid _ := HW6
      have HW6 : Hid _ := HW6.out.alloc (.cells #[.int .i64 (i : Int), .int .i64 (p : Int), .bool z, .int .i64 n] 43)
      refine hK _ _ (fun _ => HO6.out.cells2) ?_
      clear hK K
      simp only [List.cons_append, List.nil_append]
      have q5 := HW6.out.c5
      refine wpSch_list rfl rfl (fun K hK => ?_)
      generalize hwb : w6.drew.alloc (.cells #[.int .i64 (i : Int), .int .i64 (p : Int), .bool z, .int .i64 n] 43) = wb at q5 ⊢
      go_wp2_with fail
      subst hwb
      refine hK _ _ (fun _ => HO6.out.cells2) ?_
      clear hK K
      clear q5
      refine wpSch_list rfl rfl (fun K hK => ?_)
      go_wp2_with (refine wpList_app_st rfl _ _ rfl HWb.out.jx.rw HWb.out.jx.lt rfl (H := w6.heap.size) rfl rfl (s2 := ((i, p), o)) HSTC.out hml2 ?_; intro g3 cap3 w7 ho7 hg7 hor7)
      have HJ : Hid _ := HW6.out.jx.step (s2 := ((i, p), o)) (H := w6.heap.size + 1) (by simp) ho7 hg7 hor7
      have HB7 : Hid (BoxN w7 B4 29 #[.bool z, .int .i64 n]) := HO6.out.box.kept hg7 (fun e => HO6.out.no ((HW6.out.jx.x _).2 (.inr (.inr e.symm))))
      refine hK _ _ (fun _ => ⟨HB7.out.cell 0, HB7.out.cell 1⟩) ?_
      clear hK K
      iterate 2
        refine wpSch_read rfl rfl ?_
        apply Exists.intro
        refine ⟨fun W hW => ?_, ?_⟩
        · obtain ⟨r1, r2⟩ := hW
          go_simp
          with_reducible rfl
        show wpSch _ _ _ _ _ _ (Act.put _ (some _) _) _
        simp only [Act.put, List.setIfInBounds_toArray, List.set_cons_zero, List.set_cons_succ]
      have q5 : w7.cell? ⟨pm, 5, none⟩ = _ := HJ.out.1.cell 5
      have f5 := HJ.out.1.frozen 5
      unfold mmc at q5
      simp only [List.getElem?_toArray, List.getElem?_cons_zero, List.getElem?_cons_succ] at q5
      refine wpSch_list rfl rfl (fun K hK => ?_)
      go_wp2_with fail
      have HW8 : Hid _ := HW6.out.call HJ.out.2.2 HJ.out.2.1
      have HO8 : Hid _ := HO6.out.call HJ.out.2.2
      refine hK _ _ (fun _ => HO8.out.cells2) ?_
      clear hK K
      clear q5 f5 HJ HW6 HWb HO6 ho7 hg7 HB7
      unfold wpSch
      have b0 := HO8.out.cells2.1
      have b1 := HO8.out.cells2.2
      go_wp2_with (refine wpList_store_box rfl 29 _ _ rfl w.heap.size _ rfl rfl _ HW8.out.mo.o.box Try.info29 rfl (by simp [Value.oneCell']) ?_; intro w9 hx9 hg9; have hc := hx9.cell; have HF : Hid _ := HW8.out.fin hx9 hg9)
      exact bodyPost_ret (by simp [results, Try.results47, go_sem, hc]) rfl ⟨rfl, HF.out.1, HF.out.2⟩
  · have HLT := HW2.out.kb.box.lt
    go_wp2_with fail
    have HO4 : Hid (Obt (XM ⟨pm, pk⟩) w _ w2.heap.size 29 #[.bool false, .int .i64 0]) := HW2.out.new 29 #[.bool false, .int .i64 0]
    have HW2 : Hid _ := HW2.out.alloc (.cells #[.bool false, .int .i64 0] 29)
    refine hK _ _ (fun _ => HC.out _ _ _ _ _ HW2.out) ?_
    clear hK K
    simp only [List.cons_append, List.nil_append]
    have hcl := HT.out _ HW2.out.mo.m.j (HL.out _ _ _ _ _ HW2.out)
    refine wpSch_list rfl rfl (fun K hK => ?_)
    go_wp2_with (go_at_call 74; refine hcl.mono ?_; rintro e1 W3 ⟨rfl, hk3, sv3, D3, hj3⟩)
    have HW3 : Hid _ := HW2.out.call hk3 hj3
    have HO4 : Hid _ := HO4.out.call hk3
    refine hK _ _ (fun _ => HC.out _ _ _ _ _ HW3.out) ?_
    clear hK K
    clear hk3 hj3 hcl
    refine wpSch_list rfl rfl (fun K hK => ?_)
    have hlt4 : w.heap.size + 1 < w2.heap.size := HLT
    go_wp2_with (refine wpList_store_box rfl 29 _ _ rfl w2.heap.size _ rfl rfl _ HO4.out.box Try.info29 rfl (by simp [Value.oneCell']) ?_; intro w4 hx4 hg4; have HP4 : Hid _ := HW3.out.box HO4.out hlt4 hx4 hg4; clear hx4 hg4)
    have HW4 : Hid _ := HP4.out.1
    have HO5 : Hid _ := HP4.out.2
    refine hK _ _ (fun _ => HC.out _ _ _ _ _ HW4.out) ?_
    clear hK K
    generalize w2.heap.size = B4 at *
    unfold wpSch
    clear HP4 HW3 HO4 HT HW2
    go_wp2_with fail
    have HW4 : Hid _ := HW4.out.drew
    have HO5 : Hid (Obt (XM ⟨pm, pk⟩) w w4.drew B4 29 #[.bool z, .int .i64 n]) := ⟨HO5.out.box, HO5.out.no, HO5.out.ge⟩
    refine wp_region_sch (fun W => W.cell? ⟨pm, 4, none⟩ = some (.map (some pk)) ∧ (W.cell? ⟨w.heap.size + 1, 0, none⟩ = some (.int .i64 (i : Int)) ∧ W.cell? ⟨w.heap.size + 1, 1, none⟩ = some (.int .i64 (p : Int))) ∧ (W.cell? ⟨B4, 0, none⟩ = some (.bool z) ∧ W.cell? ⟨B4, 1, none⟩ = some (.int .i64 n))) 6 [(0,true),(1,true),(2,true),(3,true),(4,true),(5,true),(6,false)] _ (by kernel_rfl) (by kernel_rfl) (fun _ => by kernel_rfl) (by kernel_rfl) rfl (fun c a d v w h => by cases d <;> exact h) ⟨HW4.out.c4, HW4.out.kb.cells2, HO5.out.cells2⟩ ?_
    iterate 6
      refine wpSch_read rfl rfl ?_
      apply Exists.intro
      refine ⟨fun W hW => ?_, ?_⟩
      · obtain ⟨r1, ⟨r2, r3⟩, r4, r5⟩ := hW
        go_simp
        with_reducible rfl
      show wpSch _ _ _ _ _ _ (Act.put _ (some _) _) _
      simp only [Act.put, List.setIfInBounds_toArray, List.set_cons_zero, List.set_cons_succ]
    refine wpSch_list rfl rfl (fun K hK => ?_)
    obtain ⟨w6, hmu, ho6, hg6⟩ := HW4.out.jx.mp.own.update law144 underlying96 hml hky hro
    go_wp2_with fail
    have HQ : Hid _ := HW4.out.jx.known hi6 hp6 hmn ho6 hg6
    have HW6 : Hid _ := HW4.out.call HQ.out.2 HQ.out.1
    have HO6 : Hid _ := HO5.out.call HQ.out.2
    refine hK _ _ (fun h => absurd rfl h) ?_
    clear hK K ho6 hg6 HQ HO5 HW4
    unfold wpSch
    go_wp2_with fail
    have HW6 : Hid _ := HW6.out.drew
    have HO6 : Hid (Obt (XM ⟨pm, pk⟩) w w6.drew B4 29 #[.bool z, .int .i64 n]) := ⟨HO6.out.box, HO6.out.no, HO6.out.ge⟩
    refine wp_region_schA (fun W => W.cell? ⟨B4, 0, none⟩ = some (.bool z) ∧ W.cell? ⟨B4, 1, none⟩ = some (.int .i64 n)) 14 9 [(0,true),(1,true),(2,true),(3,true),(5,true),(6,true),(7,true),(8,true),(4,false)] [(10,false),(11,true),(12,true),(13,false)] _ (by kernel_rfl) (by kernel_rfl) (fun h => absurd h (by decide)) (by kernel_rfl) rfl (fun c a d v w h => by cases d <;> exact h) HO6.out.cells2 ?_
    iterate 8
      refine wpSchA_read rfl rfl ?_
      apply Exists.intro
      refine ⟨fun W hW => ?_, ?_⟩
      · obtain ⟨r1, r2⟩ := hW
        go_simp
        with_reducible rfl
      show wpSchA _ _ _ _ _ _ _ _ (Act.put _ (some _) _) _
      simp only [Act.put, List.setIfInBounds_toArray, List.set_cons_zero, List.set_cons_succ]
    refine wpSchA_list rfl rfl rfl rfl (fun K hK => ?_) (fun K hK => ?_)
    · have q5 := HW6.out.c5
      go_wp2_with fail
      refine hK _ _ (fun _ => HO6.out.cells2) ?_
      clear hK K
      clear q5
      refine wpSchA_last rfl rfl (fun K hK => ?_)
      go_wp2_with (refine wpList_bs rfl _ rfl (.int .i64 (i : Int)) (.int .i64 (p : Int)) (.bool z) (.int .i64 n) rfl ?_)
      have HO6 : Hid (Obt (XM ⟨pm, pk⟩) w _ B4 29 #[.bool z, .int .i64 n]) := HO6.out.below (envM2 g T tv ⟨pm, pk⟩ N) HW6.out.mo.m ((Below.refl _ _).alloc (Nat.le_refl _) (.cells #[.int .i64 (i : Int), .int .i64 (p : Int), .bool z, .int .i64 n] 43))
      have HWb : Hid _ := HW6
      have HW6 : Hid _ := HW6.out.alloc (.cells #[.int .i64 (i : Int), .int .i64 (p : Int), .bool z, .int .i64 n] 43)
      refine hK _ _ (fun _ => HO6.out.cells2) ?_
      clear hK K
      refine wpSch_list rfl rfl (fun K hK => ?_)
      go_wp2_with (refine wpList_app_st rfl _ _ rfl HWb.out.jx.rw HWb.out.jx.lt rfl (H := w6.heap.size) rfl rfl (s2 := ((i, p), o)) HSTC.out hml2 ?_; intro g3 cap3 w7 ho7 hg7 hor7)
      have HJ : Hid _ := HW6.out.jx.step (s2 := ((i, p), o)) (H := w6.heap.size + 1) (by simp) ho7 hg7 hor7
      have HB7 : Hid (BoxN w7 B4 29 #[.bool z, .int .i64 n]) := HO6.out.box.kept hg7 (fun e => HO6.out.no ((HW6.out.jx.x _).2 (.inr (.inr e.symm))))
      refine hK _ _ (fun _ => ⟨HB7.out.cell 0, HB7.out.cell 1⟩) ?_
      clear hK K
      iterate 2
        refine wpSch_read rfl rfl ?_
        apply Exists.intro
        refine ⟨fun W hW => ?_, ?_⟩
        · obtain ⟨r1, r2⟩ := hW
          go_simp
          with_reducible rfl
        show wpSch _ _ _ _ _ _ (Act.put _ (some _) _) _
        simp only [Act.put, List.setIfInBounds_toArray, List.set_cons_zero, List.set_cons_succ]
      have q5 : w7.cell? ⟨pm, 5, none⟩ = _ := HJ.out.1.cell 5
      have f5 := HJ.out.1.frozen 5
      unfold mmc at q5
      simp only [List.getElem?_toArray, List.getElem?_cons_zero, List.getElem?_cons_succ] at q5
      refine wpSch_list rfl rfl (fun K hK => ?_)
      go_wp2_with fail
      have HW8 : Hid _ := HW6.out.call HJ.out.2.2 HJ.out.2.1
      have HO8 : Hid _ := HO6.out.call HJ.out.2.2
      refine hK _ _ (fun _ => HO8.out.cells2) ?_
      clear hK K
      clear q5 f5 HJ HW6 HWb HO6 ho7 hg7 HB7
      unfold wpSch
      have b0 := HO8.out.cells2.1
      have b1 := HO8.out.cells2.2
      go_wp2_with (refine wpList_store_box rfl 29 _ _ rfl w.heap.size _ rfl rfl _ HW8.out.mo.o.box Try.info29 rfl (by simp [Value.oneCell']) ?_; intro w9 hx9 hg9; have hc := hx9.cell; have HF : Hid _ := HW8.out.fin hx9 hg9)
      exact bodyPost_ret (by simp [results, Try.results47, go_sem, hc]) rfl ⟨rfl, HF.out.1, HF.out.2⟩
    · go_wp2_with (refine wpList_bs rfl _ rfl (.int .i64 (i : Int)) (.int .i64 (p : Int)) (.bool z) (.int .i64 n) rfl ?_)
      have HO6 : Hid (Obt (XM ⟨pm, pk⟩) w _ B4 29 #[.bool z, .int .i64 n]) := HO6.out.below (envM2 g T tv ⟨pm, pk⟩ N) HW6.out.mo.m ((Below.refl _ _).alloc (Nat.le_refl _) (.cells #[.int .i64 (i : Int), .int .i64 (p : Int), .bool z, .int .i64 n] 43))
      have HWb : Hid _ := HW6
      have HW6 : Hid _ := HW6.out.alloc (.cells #[.int .i64 (i : Int), .int .i64 (p : Int), .bool z, .int .i64 n] 43)
      refine hK _ _ (fun _ => HO6.out.cells2) ?_
      clear hK K
      simp only [List.cons_append, List.nil_append]
      have q5 := HW6.out.c5
      refine wpSch_list rfl rfl (fun K hK => ?_)
      generalize hwb : w6.drew.alloc (.cells #[.int .i64 (i : Int), .int .i64 (p : Int), .bool z, .int .i64 n] 43) = wb at q5 ⊢
      go_wp2_with fail
      subst hwb
      refine hK _ _ (fun _ => HO6.out.cells2) ?_
      clear hK K
      clear q5
      refine wpSch_list rfl rfl (fun K hK => ?_)
      go_wp2_with (refine wpList_app_st rfl _ _ rfl HWb.out.jx.rw HWb.out.jx.lt rfl (H := w6.heap.size) rfl rfl (s2 := ((i, p), o)) HSTC.out hml2 ?_; intro g3 cap3 w7 ho7 hg7 hor7)
      have HJ : Hid _ := HW6.out.jx.step (s2 := ((i, p), o)) (H := w6.heap.size + 1) (by simp) ho7 hg7 hor7
      have HB7 : Hid (BoxN w7 B4 29 #[.bool z, .int .i64 n]) := HO6.out.box.kept hg7 (fun e => HO6.out.no ((HW6.out.jx.x _).2 (.inr (.inr e.symm))))
      refine hK _ _ (fun _ => ⟨HB7.out.cell 0, HB7.out.cell 1⟩) ?_
      clear hK K
      iterate 2
        refine wpSch_read rfl rfl ?_
        apply Exists.intro
        refine ⟨fun W hW => ?_, ?_⟩
        · obtain ⟨r1, r2⟩ := hW
          go_simp
          with_reducible rfl
        show wpSch _ _ _ _ _ _ (Act.put _ (some _) _) _
        simp only [Act.put, List.setIfInBounds_toArray, List.set_cons_zero, List.set_cons_succ]
      have q5 : w7.cell? ⟨pm, 5, none⟩ = _ := HJ.out.1.cell 5
      have f5 := HJ.out.1.frozen 5
      unfold mmc at q5
      simp only [List.getElem?_toArray, List.getElem?_cons_zero, List.getElem?_cons_succ] at q5
      refine wpSch_list rfl rfl (fun K hK => ?_)
      go_wp2_with fail
      have HW8 : Hid _ := HW6.out.call HJ.out.2.2 HJ.out.2.1
      have HO8 : Hid _ := HO6.out.call HJ.out.2.2
      refine hK _ _ (fun _ => HO8.out.cells2) ?_
      clear hK K
      clear q5 f5 HJ HW6 HWb HO6 ho7 hg7 HB7
      unfold wpSch
      have b0 := HO8.out.cells2.1
      have b1 := HO8.out.cells2.2
      go_wp2_with (refine wpList_store_box rfl 29 _ _ rfl w.heap.size _ rfl rfl _ HW8.out.mo.o.box Try.info29 rfl (by simp [Value.oneCell']) ?_; intro w9 hx9 hg9; have hc := hx9.cell; have HF : Hid _ := HW8.out.fin hx9 hg9)
      exact bodyPost_ret (by simp [results, Try.results47, go_sem, hc]) rfl ⟨rfl, HF.out.1, HF.out.2⟩
end Go.Proofs.Ytokdaapmejccbaa
