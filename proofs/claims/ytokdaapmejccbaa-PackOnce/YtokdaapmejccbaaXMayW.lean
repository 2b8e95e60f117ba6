import Derived.Test.YtokdaapmejccbaaXWKids
import Derived.Test.YtokdaapmejccbaaXOfR
import Derived.Test.YtokdaapmejccbaaXEq
import Derived.WalkKit
import Derived.Below
import Derived.Deep.QuietTactic
import Derived.BigQuiet
import Derived.BigRegion
namespace Go.Proofs.Ytokdaapmejccbaa
open Go.RowKit
open Ex.may (mayL)
set_option linter.unusedVariables false
set_option linter.unusedSimpArgs false
/-- What may does with an expression. -/
def MyC (g : Gr) (l : List Fa) (kb gb K m : Nat) (e : Ex) : Prop := ∀ w : World, e.In w.heap.size w → Kn m w g l kb gb K →
  Calls Try.prog 51 #[e.val, ofv kb gb] w fun r W' => r = .returned (fval (e.may (ofL noF g.rules l))) ∧ Below w.heap.size w W'
/-- The two boxes of the call. -/
structure Km (w : World) (e : Ex) (W : World) : Prop where
  bel : Below w.heap.size w W
  be : BoxN W w.heap.size 57 e.cells
  sl : Sl W (w.heap.size + 1)
theorem Km.step {w : World} {e : Ex} {W W' : World} (h : Km w e W) (hb : Below W.heap.size W W') : Km w e W' := ⟨h.bel.trans (hb.mono h.bel.size), h.be.below hb h.be.lt, h.sl.below hb h.sl.lt⟩
theorem Km.new (w : World) (e : Ex) : Km w e ((w.alloc (.cells e.cells 57)).alloc (.cells #[.bool false, .bool false, .bool false] 61)) := by
  have h2 := BoxN.new (w.alloc (.cells e.cells 57)) 61 #[.bool false, .bool false, .bool false]
  rw [World.size_alloc] at h2
  exact ⟨((Below.refl _ w).alloc (Nat.le_refl _) _).alloc (by simp) _, (BoxN.new w 57 e.cells).alloc _, ⟨_, h2, rfl⟩⟩
theorem Km.fin {w : World} {e : Ex} {W : World} (h : Km w e W) (u v x : Value) : Below w.heap.size w (((W.setCell ⟨w.heap.size + 1, 0, none⟩ u).setCell ⟨w.heap.size + 1, 1, none⟩ v).setCell ⟨w.heap.size + 1, 2, none⟩ x) :=
  ((h.bel.setCell (by simp) u).setCell (by simp) v).setCell (by simp) x
set_option maxRecDepth 20000 in
set_option maxHeartbeats 4000000 in
theorem may_1 (g : Gr) (l : List Fa) (kb gb K m : Nat) (e : Ex) (hk : e.k = 1) : MyC g l kb gb K m e := fun w hin hK => by
  have hA := ((Below.refl w.heap.size w).alloc (Nat.le_refl _) (.cells e.cells 57)).alloc (by simp) (.cells #[.bool ((true, false, false) : Fa).1, .bool ((true, false, false) : Fa).2.1, .bool ((true, false, false) : Fa).2.2] 61)
  rw [cells_eq, hk] at hA
  rw [may_eq, if_pos hk, val_eq, hk]
  unfold ofv
  go_enter Try.func51, Try.ntmps51
  go_wp2_with fail
  exact bodyPost_ret (v := fval ((true, false, false) : Fa)) (by simp [results, Try.results51, go_sem, fval_eq]) rfl ⟨rfl, hA⟩
set_option maxRecDepth 20000 in
set_option maxHeartbeats 4000000 in
theorem may_2 (g : Gr) (l : List Fa) (kb gb K m : Nat) (e : Ex) (hk : e.k = 2) : MyC g l kb gb K m e := fun w hin hK => by
  have hA := ((Below.refl w.heap.size w).alloc (Nat.le_refl _) (.cells e.cells 57)).alloc (by simp) (.cells #[.bool ((false, !noS e.S, true) : Fa).1, .bool ((false, !noS e.S, true) : Fa).2.1, .bool ((false, !noS e.S, true) : Fa).2.2] 61)
  rw [cells_eq, hk] at hA
  rw [may_eq, if_neg (by omega), if_pos hk, val_eq, hk]
  unfold ofv
  have he := eq_arr (wd e.S 0) (wd e.S 1) (wd e.S 2) (wd e.S 3) 0 0 0 0
  rw [show ((wd e.S 0 == 0) && ((wd e.S 1 == 0) && ((wd e.S 2 == 0) && (wd e.S 3 == 0)))) = noS e.S from rfl] at he
  generalize noS e.S = z at *
  go_enter Try.func51, Try.ntmps51
  go_wp2_with fail
  exact bodyPost_ret (v := fval ((false, !z, true) : Fa)) (by simp [results, Try.results51, go_sem, fval_eq]) rfl ⟨rfl, hA⟩
set_option maxRecDepth 20000 in
set_option maxHeartbeats 4000000 in
theorem may_3 (g : Gr) (l : List Fa) (kb gb K m : Nat) (e : Ex) (hk : e.k = 3) : MyC g l kb gb K m e := fun w hin hK => by
  have hA := ((Below.refl w.heap.size w).alloc (Nat.le_refl _) (.cells e.cells 57)).alloc (by simp) (.cells #[.bool ((false, true, true) : Fa).1, .bool ((false, true, true) : Fa).2.1, .bool ((false, true, true) : Fa).2.2] 61)
  rw [cells_eq, hk] at hA
  rw [may_eq, if_neg (by omega), if_neg (by omega), if_pos hk, val_eq, hk]
  unfold ofv
  go_enter Try.func51, Try.ntmps51
  go_wp2_with fail
  exact bodyPost_ret (v := fval ((false, true, true) : Fa)) (by simp [results, Try.results51, go_sem, fval_eq]) rfl ⟨rfl, hA⟩
set_option maxRecDepth 20000 in
set_option maxHeartbeats 4000000 in
theorem may_4 (g : Gr) (l : List Fa) (kb gb K m : Nat) (e : Ex) (hk : e.k = 4) (hs : IsRule g e.t) (hl : g.rules.length ≤ 10) : MyC g l kb gb K m e := fun w hin hK => by
  have hKm := Km.new w e
  have hor := ofRule_any g l kb gb K m e.t hs hl _ (hK.grow hKm.bel)
  rw [fval_eta] at hor
  have hst : ∀ W', _ → _ := fun W' (hb : Below _ _ W') => hKm.step hb
  rw [cells_eq, hk] at hor hst
  rw [may_eq, if_neg (by omega), if_neg (by omega), if_neg (by omega), if_pos hk, val_eq, hk]
  unfold ofv
  go_enter Try.func51, Try.ntmps51
  go_wp2_with (go_at_call 83; refine hor.mono ?_; rintro r W1 ⟨rfl, hb⟩
               have hS := hst W1 hb
               have hfin := hS.fin (.bool (ofL noF g.rules l e.t).1) (.bool (ofL noF g.rules l e.t).2.1) (.bool (ofL noF g.rules l e.t).2.2)
               obtain ⟨z0, z1, z2⟩ := hS.sl.last (.bool (ofL noF g.rules l e.t).1) (.bool (ofL noF g.rules l e.t).2.1) (.bool (ofL noF g.rules l e.t).2.2)
               have e0 := hS.sl.c 0 (by omega)
               have e1 := hS.sl.c 1 (by omega)
               have e2 := hS.sl.c 2 (by omega)
               have f0 := hS.sl.f 0
               have f1 := hS.sl.f 1
               have f2 := hS.sl.f 2)
  exact bodyPost_ret (v := fval (ofL noF g.rules l e.t)) (by simp [results, Try.results51, go_sem, z0, z1, z2, fval_eta]) rfl ⟨rfl, hfin⟩
/-- What has been filled in. -/
def dn (R : ByteArray → Fa) (kids : List Ex) (i : Nat) : List Fa := (kids.take i).map (Ex.may R) ++ List.replicate (kids.length - i) noF
theorem dn_zero (R : ByteArray → Fa) (kids : List Ex) : dn R kids 0 = List.replicate kids.length noF := by simp [dn]
theorem dn_all (R : ByteArray → Fa) (kids : List Ex) : dn R kids kids.length = kids.map (Ex.may R) := by simp [dn]
theorem dn_len (R : ByteArray → Fa) (kids : List Ex) (i : Nat) (h : i ≤ kids.length) : (dn R kids i).length = kids.length := by simp [dn]; omega
theorem dn_succ (R : ByteArray → Fa) (kids : List Ex) (i : Nat) (x : Ex) (h : kids[i]? = some x) : (dn R kids i).set i (x.may R) = dn R kids (i + 1) := by
  have hi := (List.getElem?_eq_some_iff.1 h).1
  unfold dn
  rw [List.take_add_one, h, Option.toList_some, List.map_append, List.append_assoc]
  have h1 : kids.length - i = (kids.length - (i + 1)) + 1 := by omega
  rw [h1, List.replicate_succ]
  have h2 : ((kids.take i).map (Ex.may R)).length = i := by simp; omega
  rw [List.set_append_right _ _ (by omega), h2, Nat.sub_self]
  rfl
/-- Within the loop over the kids. -/
structure Kl (w : World) (e : Ex) (l : List Fa) (W : World) : Prop where
  m : Km w e W
  x : Fx W (w.heap.size + 1 + 1) l
theorem Kl.step {w : World} {e : Ex} {l : List Fa} {W W' : World} (h : Kl w e l W) (hb : Below W.heap.size W W') : Kl w e l W' := ⟨h.m.step hb, h.x.below hb h.x.lt⟩
theorem Kl.set {w : World} {e : Ex} {l : List Fa} {W : World} (h : Kl w e l W) {i : Nat} (hi : i < l.length) (f : Fa) :
    Kl w e (l.set i f) (((W.setCell ⟨w.heap.size + 1 + 1, i * 3, none⟩ (.bool f.1)).setCell ⟨w.heap.size + 1 + 1, i * 3 + 1, none⟩ (.bool f.2.1)).setCell ⟨w.heap.size + 1 + 1, i * 3 + 2, none⟩ (.bool f.2.2)) := by
  have hg := ((Go.Lib.grownBy_setCell W (w.heap.size + 1 + 1) (i * 3) (.bool f.1)))
  have k : ∀ (W : World) (o : Nat) (v : Value), Km w e W → Km w e (W.setCell ⟨w.heap.size + 1 + 1, o, none⟩ v) := fun W o v hm =>
    ⟨hm.bel.setCell (by simp; omega) v, hm.be.kept (Go.Lib.grownBy_setCell _ _ _ _) (by simp; omega), by obtain ⟨cs, h1, h2⟩ := hm.sl; exact ⟨cs, h1.kept (Go.Lib.grownBy_setCell _ _ _ _) (by simp), h2⟩⟩
  exact ⟨k _ _ _ (k _ _ _ (k _ _ _ h.m)), h.x.set hi f⟩
/-- .. with the kid's copy. -/
structure Kr (w : World) (e x : Ex) (l : List Fa) (NB : Nat) (W : World) : Prop where
  k : Kl w e l W
  b : BoxN W NB 57 x.cells
theorem Kr.step {w : World} {e x : Ex} {l : List Fa} {NB : Nat} {W W' : World} (h : Kr w e x l NB W) (hb : Below W.heap.size W W') : Kr w e x l NB W' := ⟨h.k.step hb, h.b.below hb h.b.lt⟩
set_option maxRecDepth 20000 in
set_option maxHeartbeats 4000000 in
theorem may_k (g : Gr) (l : List Fa) (kb gb K m : Nat) (e : Ex) (hk : 5 ≤ e.k ∧ e.k ≤ 11) (hlen : e.kids.length ≤ 8) (hpos : 1 ≤ e.kids.length) (ih : ∀ x ∈ e.kids, MyC g l kb gb K m x) : MyC g l kb gb K m e := fun w hin hK => by
  rw [may_eq, if_neg (by omega), if_neg (by omega), if_neg (by omega), if_neg (by omega), val_eq, mayL_map]
  generalize hRe : ofL noF g.rules l = R at *
  have g1 : (e.k == 1) = false := by rw [beq_eq_false_iff_ne]; omega
  have g2 : (e.k == 2) = false := by rw [beq_eq_false_iff_ne]; omega
  have g3 : (e.k == 3) = false := by rw [beq_eq_false_iff_ne]; omega
  have g4 : (e.k == 4) = false := by rw [beq_eq_false_iff_ne]; omega
  have hmk := make_facts e.kids.length (by omega)
  have hKm := Km.new w e
  have hf0 := Fx.new ((w.alloc (.cells e.cells 57)).alloc (.cells #[.bool false, .bool false, .bool false] 61)) e.kids.length
  rw [show ((w.alloc (.cells e.cells 57)).alloc (.cells #[.bool false, .bool false, .bool false] 61)).heap.size = w.heap.size + 1 + 1 from by simp, ← dn_zero R] at hf0
  have HL : Hid (Kl w e (dn R e.kids 0) (((w.alloc (.cells e.cells 57)).alloc (.cells #[.bool false, .bool false, .bool false] 61)).alloc (.cells (noFs e.kids.length) 61))) := ⟨hKm.step ((Below.refl _ _).alloc (Nat.le_refl _) _), hf0⟩
  have HI : Hid (∀ x ∈ e.kids, ∀ W, Below w.heap.size w W → Calls Try.prog 51 #[x.val, ofv kb gb] W fun r W' => r = .returned (fval (x.may R)) ∧ Below W.heap.size W W') := fun x hx W hb => by
    obtain ⟨j, hj⟩ := List.getElem?_of_mem hx
    have := ih x hx W ((hin.kid hj).2.grow hb) (hK.grow hb)
    rw [hRe] at this
    exact this
  have HC : Hid (∀ (i : Nat) (x : Ex), e.kids[i]? = some x → ∀ W, Below w.heap.size w W → ∃ b o, e.a = some ⟨b, o, none⟩ ∧ b < w.heap.size ∧ ∀ m, m < 7 → W.cell? ⟨b, o + i * 7 + m, none⟩ = x.cells[m]?) := fun i x hx W hb => by
    obtain ⟨⟨b, o, ha, hb2, hc⟩, _⟩ := hin.kid hx
    exact ⟨b, o, ha, hb2, fun m hm => (hb.cell (p := ⟨b, _, none⟩) hb2).trans (hc m hm)⟩
  obtain ⟨F, hF⟩ : ∃ F, mayK e.k (e.kids.map (Ex.may R)) = F := ⟨_, rfl⟩
  rw [hF]
  have HW : Hid (∀ (W : World), FAt W (w.heap.size + 1 + 1) 0 (e.kids.map (Ex.may R)) → Calls Try.prog 82 #[.int .i64 e.k, .slice (some ⟨w.heap.size + 1 + 1, 0, none⟩) e.kids.length e.kids.length] W fun r2 W' => r2 = .returned (fval F) ∧ Below W.heap.size W W') := fun W hf => by
    obtain ⟨a, r, har⟩ : ∃ a r, e.kids.map (Ex.may R) = a :: r := by
      cases hm : e.kids.map (Ex.may R) with
      | nil => have := congrArg List.length hm; simp at this; rw [this] at hpos; simp at hpos
      | cons a r => exact ⟨a, r, rfl⟩
    rw [← hF]
    rw [har] at hf ⊢
    have h1 : e.kids.length = r.length + 1 := by have := congrArg List.length har; simpa using this
    rw [h1]
    exact withKids_any e.k hk a r _ _ W hf (by omega) (by omega)
  clear hin hK ih hf0 hKm hRe hF
  rw [cells_eq] at HL
  unfold ofv at HI ⊢
  go_enter Try.func51, Try.ntmps51
  go_wp2_with fail
  go_loopw [36] (fun p wr => ∃ i : Nat, p = .int .i64 i ∧ i ≤ e.kids.length ∧ Hid (Kl w e (dn R e.kids i) wr)) (fun p _ => e.kids.length - (intOf p).toNat)
  case atStart => exact ⟨0, rfl, Nat.zero_le _, HL⟩
  case round =>
    clear HL hmk
    obtain ⟨i, rfl, hi, HQ⟩ := hrel
    by_cases hend : i = e.kids.length
    · have g5 : decide (i < e.kids.length) = false := by simp; omega
      have hq : Kl w e (e.kids.map (Ex.may R)) wr := by have := HQ.out; rw [hend, dn_all] at this; exact this
      have hw := HW.out wr hq.x.fat
      have ce0 : wr.cell? ⟨w.heap.size, 0, none⟩ = some (.int .i64 e.k) := hq.m.be.cell 0
      have hst : Hid (∀ W', Below wr.heap.size wr W' → Km w e W') := fun W' hb => hq.m.step hb
      clear HI HC HW hend HQ hq
      rw [fval_eta] at hw
      go_wp2_with (go_at_call 82; refine hw.mono ?_; rintro e5 W1 ⟨rfl, hb⟩
                   have hS := hst.out W1 hb
                   have hfin := hS.fin (.bool F.1) (.bool F.2.1) (.bool F.2.2)
                   obtain ⟨z0, z1, z2⟩ := hS.sl.last (.bool F.1) (.bool F.2.1) (.bool F.2.2)
                   have e0 := hS.sl.c 0 (by omega)
                   have e1 := hS.sl.c 1 (by omega)
                   have e2 := hS.sl.c 2 (by omega)
                   have f0 := hS.sl.f 0
                   have f1 := hS.sl.f 1
                   have f2 := hS.sl.f 2)
      exact bodyPost_ret (v := fval F) (by simp [results, Try.results51, go_sem, z0, z1, z2, fval_eta]) rfl ⟨rfl, hfin⟩
    · have hlt : i < e.kids.length := by omega
      obtain ⟨x, hx⟩ : ∃ x, e.kids[i]? = some x := ⟨_, List.getElem?_eq_getElem hlt⟩
      obtain ⟨b, o, ha, hb, hc⟩ := HC.out i x hx wr HQ.out.m.bel
      have c0 := hc 0 (by omega)
      have c1 := hc 1 (by omega)
      have c2 := hc 2 (by omega)
      have c3 := hc 3 (by omega)
      have c4 := hc 4 (by omega)
      have c5 := hc 5 (by omega)
      have c6 := hc 6 (by omega)
      rw [cells_eq] at c0 c1 c2 c3 c4 c5 c6
      simp only [List.getElem?_toArray, List.getElem?_cons_zero, List.getElem?_cons_succ, Nat.add_zero] at c0 c1 c2 c3 c4 c5 c6
      rw [ha]
      have hA := (Below.refl _ wr).alloc (Nat.le_refl _) (.cells x.cells 57)
      have hix := HI.out x (List.mem_of_getElem? hx) _ (HQ.out.m.bel.alloc (HQ.out.m.bel.size) (.cells x.cells 57))
      have hil : i < (dn R e.kids i).length := by rw [dn_len _ _ _ hi]; exact hlt
      have HS : Hid (∀ W', Below (wr.alloc (.cells x.cells 57)).heap.size (wr.alloc (.cells x.cells 57)) W' → Kl w e (dn R e.kids i) W') := fun W' hb => (HQ.out.step hA).step hb
      have HD : Hid ((dn R e.kids i).set i (x.may R) = dn R e.kids (i + 1)) := dn_succ R e.kids i x hx
      have i0 : (0 : Int) ≤ (i : Int) := by omega
      have i1 : (i : Int) < (e.kids.length : Int) := by omega
      rw [val_eq, fval_eta] at hix
      rw [cells_eq] at hix HS
      generalize x.may R = f at *
      clear hc hend HW HI HC HQ hx hA
      go_wp2_with (go_at_call 51; refine hix.mono ?_; rintro e5 W1 ⟨rfl, hb⟩
                   have hS : Hid _ := HS.out W1 hb
                   have e0 : W1.cell? ⟨w.heap.size + 1 + 1, i * 3, none⟩ = _ := hS.out.x.c hil 0 (by omega)
                   have e1 : W1.cell? ⟨w.heap.size + 1 + 1, i * 3 + 1, none⟩ = _ := hS.out.x.c hil 1 (by omega)
                   have e2 : W1.cell? ⟨w.heap.size + 1 + 1, i * 3 + 2, none⟩ = _ := hS.out.x.c hil 2 (by omega)
                   have f0 := hS.out.x.frozen (i * 3)
                   have f1 := hS.out.x.frozen (i * 3 + 1)
                   have f2 := hS.out.x.frozen (i * 3 + 2)
                   clear hb HS c0 c1 c2 c3 c4 c5 c6)
      exact ⟨⟨i + 1, by go_num, by omega, by rw [← HD.out]; exact hS.out.set hil f⟩, by simp [intOf]; omega⟩
theorem kind_of {e : Ex} (h : formOk e = true) : e.k = 1 ∨ e.k = 2 ∨ e.k = 3 ∨ e.k = 4 ∨ ((5 ≤ e.k ∧ e.k ≤ 11) ∧ 1 ≤ e.kids.length ∧ e.kids.length ≤ 8) := by
  unfold formOk kidsOk at h
  simp only [Bool.and_eq_true] at h
  have h3 := h.2
  by_cases h1 : e.k = 1 ∨ e.k = 2 ∨ e.k = 3 ∨ e.k = 4
  · omega
  · rw [if_neg h1] at h3
    by_cases h2 : e.k = 5 ∨ e.k = 6
    · rw [if_pos h2] at h3
      simp only [Bool.and_eq_true, decide_eq_true_eq] at h3
      omega
    · rw [if_neg h2] at h3
      by_cases h4 : 7 ≤ e.k ∧ e.k ≤ 11
      · rw [if_pos h4] at h3
        simp only [decide_eq_true_eq] at h3
        omega
      · rw [if_neg h4] at h3
        cases h3
theorem may_does (g : Gr) (l : List Fa) (kb gb K m : Nat) (hl : g.rules.length ≤ 10) : ∀ (N : Nat) (e : Ex), e.size ≤ N → e.Ok (IsRule g) → MyC g l kb gb K m e
  | 0, e, hN, _ => by have := size_eq e; omega
  | N + 1, e, hN, ho => by
    have ho' := (ok_eq _ e).1 ho
    rcases kind_of ho'.1 with h | h | h | h | ⟨h, h1, h8⟩
    · exact may_1 g l kb gb K m e h
    · exact may_2 g l kb gb K m e h
    · exact may_3 g l kb gb K m e h
    · exact may_4 g l kb gb K m e h (ho'.2.1 h) hl
    · exact may_k g l kb gb K m e h h8 h1 fun x hx => may_does g l kb gb K m hl N x (by have := size_kid hx; omega) (ho.kid hx)
theorem may_any (g : Gr) (l : List Fa) (kb gb K m : Nat) (hl : g.rules.length ≤ 10) (e : Ex) (ho : e.Ok (IsRule g)) : MyC g l kb gb K m e := may_does g l kb gb K m hl e.size e (Nat.le_refl _) ho
end Go.Proofs.Ytokdaapmejccbaa
