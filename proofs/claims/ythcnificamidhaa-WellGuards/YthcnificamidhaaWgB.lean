import Derived.Test.YthcnificamidhaaWgA
namespace Go.Proofs.Ythcnificamidhaa
open Go.RowKit
open Ex.iw (iwL)
open Ex.lp (lpL)
open Ex.nodes (nodesL)
set_option linter.unusedVariables false
set_option linter.unusedSimpArgs false
def na : ByteArray := ⟨#[97]⟩
def nx : ByteArray := ⟨#[120]⟩
/-- A grammar of one rule that names itself. -/
theorem one_check (e : Ex) (h : check e = 0) (hr : refsR e = [na]) : gcheck [(na, e)] = 0 := by
  have hf : fnd [(na, e)] na = 0 := by unfold fnd; rw [fndF, if_pos rfl]; rfl
  have h1 : rulesChk [(na, e)] 0 [(na, e)] = 0 := by
    have : ruleChk [(na, e)] 0 (na, e) = 0 := by
      unfold ruleChk
      rw [if_neg (show ¬ isName na.data.toList = false by decide +kernel), if_neg (show ¬ fnd [(na, e)] na ≠ ((0 : Nat) : Int) by rw [hf]; decide)]
      exact h
    rw [rulesChk, rulesChk, this]
    rfl
  have h2 : ¬ 120 < gcount [(na, e)] := by
    rw [gcount, gcount]
    unfold sizeR
    rw [show check (na, e).2 = 0 from h, if_pos rfl]
    have : (e.nodes 1).length ≤ 60 := check_len e h
    show ¬ 120 < (((e.nodes 1).length : Nat) : Int) + 0
    omega
  have h3 : named [(na, e)] [(na, e)] = true := by
    rw [named, named]
    unfold insR
    rw [hr, List.map_cons, hf]
    rfl
  unfold gcheck
  rw [if_neg (by simp), if_neg (by simp), h1, if_neg (by simp), if_neg h2, if_pos h3]
/-- The first: a literal, then itself. -/
def eb1 (a : Option Addr) (c : Nat) : Ex := grd nx a c (exo 4 na none 0 [])
/-- The second: perhaps a literal, then itself. -/
def eb2 (a : Option Addr) (c : Nat) (a' : Option Addr) (c' : Nat) : Ex := exo 5 ByteArray.empty a c [exo 9 ByteArray.empty a' c' [exo 3 nx none 0 []], exo 4 na none 0 []]
theorem w2 : wrap64 (1 + 1) = 2 := by decide +kernel
theorem w3 : wrap64 (2 + 1) = 3 := by decide +kernel
theorem eb1_nodes (a : Option Addr) (c : Nat) : (eb1 a c).nodes 1 = [(1, eb1 a c), (2, exo 3 nx none 0 []), (2, exo 4 na none 0 [])] := by
  unfold eb1 grd exo
  rw [Ex.nodes, nodesL, nodesL, nodesL, Ex.nodes, Ex.nodes, nodesL, w2]
  rfl
theorem eb2_nodes (a : Option Addr) (c : Nat) (a' : Option Addr) (c' : Nat) : (eb2 a c a' c').nodes 1 = [(1, eb2 a c a' c'), (2, exo 9 ByteArray.empty a' c' [exo 3 nx none 0 []]), (3, exo 3 nx none 0 []), (2, exo 4 na none 0 [])] := by
  unfold eb2 exo
  rw [Ex.nodes, nodesL, nodesL, nodesL, Ex.nodes, Ex.nodes, nodesL, nodesL, Ex.nodes, nodesL, w2, w3, nodesL]
  rfl
theorem noS_none : noS 0 = true := by decide +kernel
theorem f5 (a : Option Addr) (c : Nat) (x y : Ex) : formOk (exo 5 ByteArray.empty a c [x, y]) = true := by
  unfold formOk textOk setOk kidsOk
  simp [exo, Ex.k, Ex.t, Ex.S, Ex.kids]
  exact noS_none
theorem f9 (a : Option Addr) (c : Nat) (x : Ex) : formOk (exo 9 ByteArray.empty a c [x]) = true := by
  unfold formOk textOk setOk kidsOk
  simp [exo, Ex.k, Ex.t, Ex.S, Ex.kids]
  exact noS_none
theorem f3 : formOk (exo 3 nx none 0 []) = true := by decide +kernel
theorem f4 : formOk (exo 4 na none 0 []) = true := by decide +kernel
theorem eb1_check (a : Option Addr) (c : Nat) : check (eb1 a c) = 0 := by
  unfold check
  rw [eb1_nodes]
  rw [chk, if_neg (by decide), if_neg (by decide), if_pos (show formOk (eb1 a c) = true from f5 _ _ _ _), chk, if_neg (by decide), if_neg (by decide), if_pos f3, chk, if_neg (by decide), if_neg (by decide), if_pos f4, chk]
theorem eb2_check (a : Option Addr) (c : Nat) (a' : Option Addr) (c' : Nat) : check (eb2 a c a' c') = 0 := by
  unfold check
  rw [eb2_nodes]
  rw [chk, if_neg (by decide), if_neg (by decide), if_pos (show formOk (eb2 a c a' c') = true from f5 _ _ _ _), chk, if_neg (by decide), if_neg (by decide), if_pos (f9 _ _ _), chk, if_neg (by decide), if_neg (by decide), if_pos f3, chk, if_neg (by decide), if_neg (by decide), if_pos f4, chk]
theorem eb1_refs (a : Option Addr) (c : Nat) : refsR (eb1 a c) = [na] := by
  unfold refsR
  rw [if_pos (eb1_check a c), eb1_nodes]
  rfl
theorem eb2_refs (a : Option Addr) (c : Nat) (a' : Option Addr) (c' : Nat) : refsR (eb2 a c a' c') = [na] := by
  unfold refsR
  rw [if_pos (eb2_check a c a' c'), eb2_nodes]
  rfl
theorem eb1_lp (mb : Ex → Bool) (a : Option Addr) (c : Nat) : (eb1 a c).lp mb = false := by
  unfold eb1 grd exo
  rw [Ex.lp, lpL, lpL, lpL, Ex.lp, Ex.lp, lpL]
  rfl
theorem eb2_lp (mb : Ex → Bool) (a : Option Addr) (c : Nat) (a' : Option Addr) (c' : Nat) : (eb2 a c a' c').lp mb = false := by
  unfold eb2 exo
  rw [Ex.lp, lpL, lpL, lpL, Ex.lp, Ex.lp, lpL, lpL, Ex.lp, lpL]
  rfl
/-- Behind the literal it is well. -/
theorem eb1_well (g : Gr) (lf : List Fa) (n e : Int) (a : Option Addr) (c : Nat) (hg : g.rules = [(na, eb1 a c)]) (h : WellN g lf n e) : e = 0 := by
  rcases grd_well g lf n e (fun r hr => by rw [hg] at hr; cases List.mem_singleton.1 hr; exact ⟨_, _, _, _, rfl⟩) h with h9 | h0
  · exfalso
    unfold WellN at h
    rw [hg, fiF, if_neg (by rw [eb1_lp]; decide), fiF] at h
    obtain ⟨lb, -, h1⟩ := h
    split at h1
    · have := h1.2; omega
    · have := h1.2; omega
  · exact h0
theorem mb_opt (g : Gr) (lf : List Fa) (a : Option Addr) (c : Nat) : mbF g lf (exo 9 ByteArray.empty a c [exo 3 nx none 0 []]) = true := by
  show ((exo 9 ByteArray.empty a c [exo 3 nx none 0 []]).may _).1 = true
  rw [may_eq]
  rfl
/-- Behind what may be empty it is not. -/
theorem eb2_well (g : Gr) (lf : List Fa) (n e : Int) (a : Option Addr) (c : Nat) (a' : Option Addr) (c' : Nat) (hg : g.rules = [(na, eb2 a c a' c')]) (h : WellN g lf n e) : e = 8 := by
  unfold WellN at h
  rw [hg, fiF, if_neg (by rw [eb2_lp]; decide), fiF] at h
  obtain ⟨lb, hL, h1⟩ := h
  have hf : fnd [(na, eb2 a c a' c')] na = 0 := by unfold fnd; rw [fndF, if_pos rfl]; rfl
  have hp : Pre bLe 1 (wst [(na, eb2 a c a' c')] (mbF g lf)) [false] := ⟨rfl, fun i y hy => by
    have hi : i = 0 := by have := (List.getElem?_eq_some_iff.1 hy).1; simp at this; omega
    subst hi
    rw [wst_at (r := (na, eb2 a c a' c')) rfl]
    have h2 : (eb2 a c a' c').iw (mbF g lf) (ofL false [(na, eb2 a c a' c')] [false]) = false := by
      have h3 := mb_opt g lf a' c'
      have h4 : ofL false [(na, eb2 a c a' c')] [false] na = false := by unfold ofL; rw [hf]; rfl
      generalize ofL false [(na, eb2 a c a' c')] [false] = R at *
      generalize mbF g lf = mb at *
      unfold eb2 exo at *
      have h6 : (Ex.mk 3 0 nx none 0 []).iw mb R = true := by rw [Ex.iw, if_neg (by decide), iwL]
      have h5 : (Ex.mk 9 0 ByteArray.empty a' c' [.mk 3 0 nx none 0 []]).iw mb R = true := by
        rw [Ex.iw, if_neg (by decide), iwL, h6, iwL]
        cases mb (.mk 3 0 nx none 0 []) <;> rfl
      have h7 : (Ex.mk 4 0 na none 0 []).iw mb R = false := by rw [Ex.iw, if_pos rfl, h4]
      rw [Ex.iw, if_neg (by decide), iwL, h5, h3, iwL, h7]
      rfl
    rw [h2]
    intro h; cases h⟩
  have hle := hL.least _ hp
  have hlen : lb.length = 1 := hL.pre.len
  obtain ⟨y, rfl⟩ := List.length_eq_one_iff.1 hlen
  have hy : y = false := by
    have := hle.2 0 y false rfl rfl
    cases y
    · rfl
    · exact absurd (this rfl) (by decide)
  subst hy
  exact h1.2
end Go.Proofs.Ythcnificamidhaa
