import Derived.Test.YtokdaapmejccbaaXRyA
import Derived.Test.YtokdaapmejccbaaXRma
import Derived.Test.YtokdaapmejccbaaXMayW
import Derived.Test.YtokdaapmejccbaaXEq
import Derived.WalkKit
import Derived.Below
import Derived.Deep.QuietTactic
import Derived.BigQuiet
import Derived.BigRegion
namespace Go.Proofs.Ytokdaapmejccbaa
open Go.RowKit
set_option linter.unusedVariables false
set_option linter.unusedSimpArgs false
set_option maxRecDepth 20000 in
set_option maxHeartbeats 8000000 in
theorem ry_5 (g : Gr) (l : List Fa) (K c m : Nat) (e : Ex) (hk : e.k = 5) (hlen : e.kids.length ≤ 8) (hpos : 1 ≤ e.kids.length) (ih : ∀ x ∈ e.kids, RyC g l K c m x) : RyC g l K c m e := fun w hin hK => by
  obtain ⟨i0, hi, hz⟩ : ∃ i0, Try.prog.info? 3 = some i0 ∧ (i0.zero, i0.size, i0.bytes) = (some (.int .i64 0), 1, 8) := by
    simpa [Option.map_eq_some_iff] using Try.info3
  simp only [Prod.mk.injEq] at hz
  obtain ⟨hz0, hz1, hz2⟩ := hz
  rw [may_eq, if_neg (by omega), if_neg (by omega), if_neg (by omega), if_neg (by omega), val_eq, gval_eq, mayL_map, hk]
  generalize hRe : ofL noF g.rules l = R at *
  obtain ⟨F, hF⟩ : ∃ F, mayK 5 (e.kids.map (Ex.may R)) = F := ⟨_, rfl⟩
  rw [hF]
  have HF : Hid (mayK 5 (e.kids.map (Ex.may R)) = F) := hF
  have HKb : Hid (Kb w g e ((w.alloc (.cells #[.slice g.a g.rules.length g.c] 24)).alloc (.cells e.cells 57))) := Kb.new w g e
  have HI : Hid (∀ x ∈ e.kids, ∀ W, Below w.heap.size w W → Calls Try.prog 69 #[.agg #[.slice g.a g.rules.length g.c], .slice (some ⟨K, 0, none⟩) g.rules.length c, x.val] W fun r W' => r = .returned (.int .i64 (encF (x.may R))) ∧ Below W.heap.size W W') := fun x hx W hb => by
    obtain ⟨j, hj⟩ := List.getElem?_of_mem hx
    have := ih x hx W ((hin.kid hj).2.grow hb) (hK.grow hb)
    rw [hRe, gval_eq] at this
    exact this
  have HC : Hid (∀ (i : Nat) (x : Ex), e.kids[i]? = some x → ∀ W, Below w.heap.size w W → ∃ b o, e.a = some ⟨b, o, none⟩ ∧ b < w.heap.size ∧ ∀ m, m < 7 → W.cell? ⟨b, o + i * 7 + m, none⟩ = x.cells[m]?) := fun i x hx W hb => by
    obtain ⟨⟨b, o, ha, hb2, hc⟩, _⟩ := hin.kid hx
    exact ⟨b, o, ha, hb2, fun m hm => (hb.cell (p := ⟨b, _, none⟩) hb2).trans (hc m hm)⟩
  clear hin hK ih hRe hF
  rw [cells_eq, hk] at HKb
  have HKE : Hid (e.k = 5) := hk
  go_enter Try.func69, Try.ntmps69
  go_wp2_with fail
  clear hk
  go_loopw [7, 41] (fun p q wr => ∃ (j : Nat) (ao : Option Addr) (co : Nat), p = .slice ao j co ∧ q = .int .i64 j ∧ j ≤ e.kids.length ∧ Hid (Is wr (w.heap.size + 1 + 1) p ((e.kids.take j).map fun x => encF (x.may R)) ∧ Kb w g e wr)) (fun _ q _ => e.kids.length - (intOf q).toNat)
  case atStart => exact ⟨0, none, 0, rfl, rfl, Nat.zero_le _, World.ownsRow_nil _ _ _ _, HKb.out⟩
  case round =>
    clear HKb
    obtain ⟨j, ao, co, rfl, rfl, hj, HQ⟩ := hrel
    by_cases hend : j = e.kids.length
    · have g1 : decide (j < e.kids.length) = false := by simp; omega
      obtain ⟨a, r, har⟩ : ∃ a r, e.kids.map (Ex.may R) = a :: r := by
        cases hm : e.kids.map (Ex.may R) with
        | nil => have := congrArg List.length hm; simp at this; rw [this] at hpos; simp at hpos
        | cons a r => exact ⟨a, r, rfl⟩
      have hF := HF.out
      rw [har] at hF
      have hIs : Is wr (w.heap.size + 1 + 1) (.slice ao j co) ((a :: r).map encF) := by
        have h1 := HQ.out.1
        rw [hend, List.take_length] at h1
        rw [hend, ← har, List.map_map]
        exact h1
      have hjl : j = r.length + 1 := by have := congrArg List.length har; simp at this; omega
      have hlm : ((a :: r).map encF).length = j := by rw [hjl]; simp
      obtain ⟨gs, cps, hve, hN1, hN2, cx0⟩ := Is.at hIs (i := 0) (x := encF a) rfl
      rw [hlm] at hve
      have hcp : j ≤ cps := by
        rcases hIs.2 with ⟨h5, h6⟩ | ⟨g5, cap5, cur5, h5, h6, h7, h8⟩
        · rw [h5] at hve; cases hve
        · rw [h5] at hve; cases hve; simp at h8; omega
      have hFI : FI wr gs 0 (a :: r) := fun i f hf => by
        obtain ⟨gs', cps', hve', _, _, cx⟩ := Is.at hIs (i := i) (x := encF f) (by rw [List.getElem?_map, hf]; rfl)
        rw [hlm, hve] at hve'; cases hve'
        rw [Nat.zero_add]; exact cx
      cases hve
      have hbw : Hid (Below w.heap.size w wr ∧ Kb w g e wr) := ⟨HQ.out.2.bel, HQ.out.2⟩
      have ce0 : wr.cell? ⟨w.heap.size + 1, 0, none⟩ = some (.int .i64 5) := by rw [← HKE.out]; exact HQ.out.2.be.cell 0
      have hrl : r.length ≤ 100 := by omega
      have j0 : (0 : Int) < (j : Int) := by omega
      clear HI HC HF hend HQ hIs har HKE hpos hN1 hN2 hlm
      have hma := mayAll_any r a gs 0 co wr hFI hrl (by omega)
      rw [← hjl] at hma
      rw [show foldF thenF (a :: r) = F from hF] at hma
      clear hFI hjl hF
      go_wp2_with (go_at_call 101; refine hma.mono ?_; rintro e5 W2 ⟨rfl, hb2⟩)
      go_ret
      exact ⟨rfl, hbw.out.1.trans (hb2.mono hbw.out.1.size)⟩
    · have hlt : j < e.kids.length := by omega
      obtain ⟨x, hx⟩ : ∃ x, e.kids[j]? = some x := ⟨_, List.getElem?_eq_getElem hlt⟩
      obtain ⟨b, o, ha, hb, hc⟩ := HC.out j x hx wr HQ.out.2.bel
      have c0 := hc 0 (by omega)
      have c1 := hc 1 (by omega)
      have c2 := hc 2 (by omega)
      have c3 := hc 3 (by omega)
      have c4 := hc 4 (by omega)
      have c5 := hc 5 (by omega)
      have c6 := hc 6 (by omega)
      rw [cells_eq] at c0 c1 c2 c3 c4 c5 c6
      simp only [List.getElem?_toArray, List.getElem?_cons_zero, List.getElem?_cons_succ, Nat.add_zero] at c0 c1 c2 c3 c4 c5 c6
      have cG : wr.cell? ⟨w.heap.size, 0, none⟩ = some (.slice g.a g.rules.length g.c) := HQ.out.2.bg.cell 0
      rw [ha]
      have hA := (Below.refl _ wr).alloc (Nat.le_refl _) (.cells x.cells 57)
      have hix := HI.out x (List.mem_of_getElem? hx) _ (HQ.out.2.bel.alloc (HQ.out.2.bel.size) (.cells x.cells 57))
      have hsz : w.heap.size + 1 + 1 ≤ wr.heap.size := HQ.out.2.be.lt
      have HS : Hid (∀ W', Below (wr.alloc (.cells x.cells 57)).heap.size (wr.alloc (.cells x.cells 57)) W' → Is W' (w.heap.size + 1 + 1) (.slice ao j co) ((e.kids.take j).map fun x => encF (x.may R)) ∧ Kb w g e W' ∧ wr.heap.size ≤ W'.heap.size) := fun W' hb => ⟨(HQ.out.1.below hA).below hb, (HQ.out.2.step hA).step hb, by have := hb.size; simp at this; omega⟩
      have HT : Hid ((e.kids.take (j + 1)).map (fun x => encF (x.may R)) = (e.kids.take j).map (fun x => encF (x.may R)) ++ [encF (x.may R)]) := by
        unfold Hid; rw [List.take_add_one, hx, Option.toList_some, List.map_append]; rfl
      have hlj : ((e.kids.take j).map fun x => encF (x.may R)).length = j := by simp; omega
      rw [val_eq] at hix
      have cG2 := (HQ.out.2.step hA).bg.cell 0
      simp only [List.getElem?_toArray, List.getElem?_cons_zero] at cG2
      rw [cells_eq] at hix HS cG2
      generalize ((e.kids.take j).map fun x => encF (x.may R)) = rs at *
      generalize encF (x.may R) = q at *
      clear hc hend HI HC HQ hx hA HF HKE hb
      go_wp2_with (first
        | (go_at_call 69; refine hix.mono ?_; rintro e5 W2 ⟨rfl, hb2⟩; have hS2 : Hid _ := HS.out W2 hb2; clear hb2 hix HS c0 c1 c2 c3 c4 c5 c6 cG cG2)
        | (at_builtin; refine wpList_append_own _ rfl _ _ 86 rfl (w.heap.size + 1 + 1) 3 i0 _ 1 8 Try.underlying86 hi hz0 hz1 hz2 rfl (by decide) _ rs.length (ics rs) ?c0 (World.ownsRow.alloc hS2.out.1 _) ⟨W2.heap.size, 0, none⟩ 1 1 [.int .i64 q] rfl rfl ?c1 ?c2 ?c3 ?c4 ?c5 ?_))
      case c0 => rfl
      case c1 => intro i u hu; match i, hu with | 0, hu => (simp at hu; subst hu; simp [Addr.add])
      case c2 => intro u hu; simp at hu; subst hu; rfl
      case c3 => unfold maxLen; omega
      case c4 => omega
      case c5 => have := hS2.out.2.2; simp; omega
      intro v8 w8 hown8 hgrow8 _
      obtain ⟨g8, cap8, rfl, -, -⟩ := World.ownsRow.form hown8 (by omega)
      have hK8 : Kb w g e w8 := by
        have k := hS2.out.2.1
        have hs3 := hS2.out.2.2
        have hne : ∀ B, B < w.heap.size + 1 + 1 → some B ≠ (Value.slice ao j co).ownBlock := fun B hB e5 => by
          have := (World.ownsRow.lt hS2.out.1 B e5.symm).1
          omega
        exact ⟨(k.bel.alloc k.bel.size _).grown hgrow8 (by simp; omega) (fun q hq => by have := (World.ownsRow.lt hS2.out.1 q hq).1; omega), (k.bg.alloc _).kept hgrow8 (hne _ (by omega)), (k.be.alloc _).kept hgrow8 (hne _ (by omega))⟩
      have hN8 : Hid (Is w8 (w.heap.size + 1 + 1) (.slice (some ⟨g8, 0, none⟩) (j + 1) cap8) ((e.kids.take (j + 1)).map fun x => encF (x.may R)) ∧ Kb w g e w8) := by
        refine ⟨?_, hK8⟩
        unfold Is
        rw [HT.out, List.length_append, hlj]
        simpa [ics] using hown8
      clear hown8 hgrow8 hK8 hS2
      go_wp2_with fail
      exact ⟨⟨j + 1, some ⟨g8, 0, none⟩, cap8, rfl, by go_num, by omega, hN8⟩, by simp [intOf]; omega⟩
set_option maxRecDepth 20000 in
set_option maxHeartbeats 8000000 in
theorem ry_6 (g : Gr) (l : List Fa) (K c m : Nat) (e : Ex) (hk : e.k = 6) (hlen : e.kids.length ≤ 8) (hpos : 1 ≤ e.kids.length) (ih : ∀ x ∈ e.kids, RyC g l K c m x) : RyC g l K c m e := fun w hin hK => by
  obtain ⟨i0, hi, hz⟩ : ∃ i0, Try.prog.info? 3 = some i0 ∧ (i0.zero, i0.size, i0.bytes) = (some (.int .i64 0), 1, 8) := by
    simpa [Option.map_eq_some_iff] using Try.info3
  simp only [Prod.mk.injEq] at hz
  obtain ⟨hz0, hz1, hz2⟩ := hz
  rw [may_eq, if_neg (by omega), if_neg (by omega), if_neg (by omega), if_neg (by omega), val_eq, gval_eq, mayL_map, hk]
  generalize hRe : ofL noF g.rules l = R at *
  obtain ⟨F, hF⟩ : ∃ F, mayK 6 (e.kids.map (Ex.may R)) = F := ⟨_, rfl⟩
  rw [hF]
  have HF : Hid (mayK 6 (e.kids.map (Ex.may R)) = F) := hF
  have HKb : Hid (Kb w g e ((w.alloc (.cells #[.slice g.a g.rules.length g.c] 24)).alloc (.cells e.cells 57))) := Kb.new w g e
  have HI : Hid (∀ x ∈ e.kids, ∀ W, Below w.heap.size w W → Calls Try.prog 69 #[.agg #[.slice g.a g.rules.length g.c], .slice (some ⟨K, 0, none⟩) g.rules.length c, x.val] W fun r W' => r = .returned (.int .i64 (encF (x.may R))) ∧ Below W.heap.size W W') := fun x hx W hb => by
    obtain ⟨j, hj⟩ := List.getElem?_of_mem hx
    have := ih x hx W ((hin.kid hj).2.grow hb) (hK.grow hb)
    rw [hRe, gval_eq] at this
    exact this
  have HC : Hid (∀ (i : Nat) (x : Ex), e.kids[i]? = some x → ∀ W, Below w.heap.size w W → ∃ b o, e.a = some ⟨b, o, none⟩ ∧ b < w.heap.size ∧ ∀ m, m < 7 → W.cell? ⟨b, o + i * 7 + m, none⟩ = x.cells[m]?) := fun i x hx W hb => by
    obtain ⟨⟨b, o, ha, hb2, hc⟩, _⟩ := hin.kid hx
    exact ⟨b, o, ha, hb2, fun m hm => (hb.cell (p := ⟨b, _, none⟩) hb2).trans (hc m hm)⟩
  clear hin hK ih hRe hF
  rw [cells_eq, hk] at HKb
  have HKE : Hid (e.k = 6) := hk
  go_enter Try.func69, Try.ntmps69
  go_wp2_with fail
  clear hk
  go_loopw [7, 41] (fun p q wr => ∃ (j : Nat) (ao : Option Addr) (co : Nat), p = .slice ao j co ∧ q = .int .i64 j ∧ j ≤ e.kids.length ∧ Hid (Is wr (w.heap.size + 1 + 1) p ((e.kids.take j).map fun x => encF (x.may R)) ∧ Kb w g e wr)) (fun _ q _ => e.kids.length - (intOf q).toNat)
  case atStart => exact ⟨0, none, 0, rfl, rfl, Nat.zero_le _, World.ownsRow_nil _ _ _ _, HKb.out⟩
  case round =>
    clear HKb
    obtain ⟨j, ao, co, rfl, rfl, hj, HQ⟩ := hrel
    by_cases hend : j = e.kids.length
    · have g1 : decide (j < e.kids.length) = false := by simp; omega
      obtain ⟨a, r, har⟩ : ∃ a r, e.kids.map (Ex.may R) = a :: r := by
        cases hm : e.kids.map (Ex.may R) with
        | nil => have := congrArg List.length hm; simp at this; rw [this] at hpos; simp at hpos
        | cons a r => exact ⟨a, r, rfl⟩
      have hF := HF.out
      rw [har] at hF
      have hIs : Is wr (w.heap.size + 1 + 1) (.slice ao j co) ((a :: r).map encF) := by
        have h1 := HQ.out.1
        rw [hend, List.take_length] at h1
        rw [hend, ← har, List.map_map]
        exact h1
      have hjl : j = r.length + 1 := by have := congrArg List.length har; simp at this; omega
      have hlm : ((a :: r).map encF).length = j := by rw [hjl]; simp
      obtain ⟨gs, cps, hve, hN1, hN2, cx0⟩ := Is.at hIs (i := 0) (x := encF a) rfl
      rw [hlm] at hve
      have hcp : j ≤ cps := by
        rcases hIs.2 with ⟨h5, h6⟩ | ⟨g5, cap5, cur5, h5, h6, h7, h8⟩
        · rw [h5] at hve; cases hve
        · rw [h5] at hve; cases hve; simp at h8; omega
      have hFI : FI wr gs 0 (a :: r) := fun i f hf => by
        obtain ⟨gs', cps', hve', _, _, cx⟩ := Is.at hIs (i := i) (x := encF f) (by rw [List.getElem?_map, hf]; rfl)
        rw [hlm, hve] at hve'; cases hve'
        rw [Nat.zero_add]; exact cx
      cases hve
      have hbw : Hid (Below w.heap.size w wr ∧ Kb w g e wr) := ⟨HQ.out.2.bel, HQ.out.2⟩
      have ce0 : wr.cell? ⟨w.heap.size + 1, 0, none⟩ = some (.int .i64 6) := by rw [← HKE.out]; exact HQ.out.2.be.cell 0
      have hrl : r.length ≤ 100 := by omega
      have j0 : (0 : Int) < (j : Int) := by omega
      clear HI HC HF hend HQ hIs har HKE hpos hN1 hN2 hlm
      have hma := mayOne_any r a gs 0 co wr hFI hrl (by omega)
      rw [← hjl] at hma
      rw [show foldF orF (a :: r) = F from hF] at hma
      clear hFI hjl hF
      go_wp2_with (go_at_call 102; refine hma.mono ?_; rintro e5 W2 ⟨rfl, hb2⟩)
      go_ret
      exact ⟨rfl, hbw.out.1.trans (hb2.mono hbw.out.1.size)⟩
    · have hlt : j < e.kids.length := by omega
      obtain ⟨x, hx⟩ : ∃ x, e.kids[j]? = some x := ⟨_, List.getElem?_eq_getElem hlt⟩
      obtain ⟨b, o, ha, hb, hc⟩ := HC.out j x hx wr HQ.out.2.bel
      have c0 := hc 0 (by omega)
      have c1 := hc 1 (by omega)
      have c2 := hc 2 (by omega)
      have c3 := hc 3 (by omega)
      have c4 := hc 4 (by omega)
      have c5 := hc 5 (by omega)
      have c6 := hc 6 (by omega)
      rw [cells_eq] at c0 c1 c2 c3 c4 c5 c6
      simp only [List.getElem?_toArray, List.getElem?_cons_zero, List.getElem?_cons_succ, Nat.add_zero] at c0 c1 c2 c3 c4 c5 c6
      have cG : wr.cell? ⟨w.heap.size, 0, none⟩ = some (.slice g.a g.rules.length g.c) := HQ.out.2.bg.cell 0
      rw [ha]
      have hA := (Below.refl _ wr).alloc (Nat.le_refl _) (.cells x.cells 57)
      have hix := HI.out x (List.mem_of_getElem? hx) _ (HQ.out.2.bel.alloc (HQ.out.2.bel.size) (.cells x.cells 57))
      have hsz : w.heap.size + 1 + 1 ≤ wr.heap.size := HQ.out.2.be.lt
      have HS : Hid (∀ W', Below (wr.alloc (.cells x.cells 57)).heap.size (wr.alloc (.cells x.cells 57)) W' → Is W' (w.heap.size + 1 + 1) (.slice ao j co) ((e.kids.take j).map fun x => encF (x.may R)) ∧ Kb w g e W' ∧ wr.heap.size ≤ W'.heap.size) := fun W' hb => ⟨(HQ.out.1.below hA).below hb, (HQ.out.2.step hA).step hb, by have := hb.size; simp at this; omega⟩
      have HT : Hid ((e.kids.take (j + 1)).map (fun x => encF (x.may R)) = (e.kids.take j).map (fun x => encF (x.may R)) ++ [encF (x.may R)]) := by
        unfold Hid; rw [List.take_add_one, hx, Option.toList_some, List.map_append]; rfl
      have hlj : ((e.kids.take j).map fun x => encF (x.may R)).length = j := by simp; omega
      rw [val_eq] at hix
      have cG2 := (HQ.out.2.step hA).bg.cell 0
      simp only [List.getElem?_toArray, List.getElem?_cons_zero] at cG2
      rw [cells_eq] at hix HS cG2
      generalize ((e.kids.take j).map fun x => encF (x.may R)) = rs at *
      generalize encF (x.may R) = q at *
      clear hc hend HI HC HQ hx hA HF HKE hb
      go_wp2_with (first
        | (go_at_call 69; refine hix.mono ?_; rintro e5 W2 ⟨rfl, hb2⟩; have hS2 : Hid _ := HS.out W2 hb2; clear hb2 hix HS c0 c1 c2 c3 c4 c5 c6 cG cG2)
        | (at_builtin; refine wpList_append_own _ rfl _ _ 86 rfl (w.heap.size + 1 + 1) 3 i0 _ 1 8 Try.underlying86 hi hz0 hz1 hz2 rfl (by decide) _ rs.length (ics rs) ?c0 (World.ownsRow.alloc hS2.out.1 _) ⟨W2.heap.size, 0, none⟩ 1 1 [.int .i64 q] rfl rfl ?c1 ?c2 ?c3 ?c4 ?c5 ?_))
      case c0 => rfl
      case c1 => intro i u hu; match i, hu with | 0, hu => (simp at hu; subst hu; simp [Addr.add])
      case c2 => intro u hu; simp at hu; subst hu; rfl
      case c3 => unfold maxLen; omega
      case c4 => omega
      case c5 => have := hS2.out.2.2; simp; omega
      intro v8 w8 hown8 hgrow8 _
      obtain ⟨g8, cap8, rfl, -, -⟩ := World.ownsRow.form hown8 (by omega)
      have hK8 : Kb w g e w8 := by
        have k := hS2.out.2.1
        have hs3 := hS2.out.2.2
        have hne : ∀ B, B < w.heap.size + 1 + 1 → some B ≠ (Value.slice ao j co).ownBlock := fun B hB e5 => by
          have := (World.ownsRow.lt hS2.out.1 B e5.symm).1
          omega
        exact ⟨(k.bel.alloc k.bel.size _).grown hgrow8 (by simp; omega) (fun q hq => by have := (World.ownsRow.lt hS2.out.1 q hq).1; omega), (k.bg.alloc _).kept hgrow8 (hne _ (by omega)), (k.be.alloc _).kept hgrow8 (hne _ (by omega))⟩
      have hN8 : Hid (Is w8 (w.heap.size + 1 + 1) (.slice (some ⟨g8, 0, none⟩) (j + 1) cap8) ((e.kids.take (j + 1)).map fun x => encF (x.may R)) ∧ Kb w g e w8) := by
        refine ⟨?_, hK8⟩
        unfold Is
        rw [HT.out, List.length_append, hlj]
        simpa [ics] using hown8
      clear hown8 hgrow8 hK8 hS2
      go_wp2_with fail
      exact ⟨⟨j + 1, some ⟨g8, 0, none⟩, cap8, rfl, by go_num, by omega, hN8⟩, by simp [intOf]; omega⟩
set_option maxRecDepth 20000 in
set_option maxHeartbeats 8000000 in
theorem ry_7 (g : Gr) (l : List Fa) (K c m : Nat) (e : Ex) (hk : e.k = 7) (hlen : e.kids.length ≤ 8) (hpos : 1 ≤ e.kids.length) (ih : ∀ x ∈ e.kids, RyC g l K c m x) : RyC g l K c m e := fun w hin hK => by
  obtain ⟨i0, hi, hz⟩ : ∃ i0, Try.prog.info? 3 = some i0 ∧ (i0.zero, i0.size, i0.bytes) = (some (.int .i64 0), 1, 8) := by
    simpa [Option.map_eq_some_iff] using Try.info3
  simp only [Prod.mk.injEq] at hz
  obtain ⟨hz0, hz1, hz2⟩ := hz
  rw [may_eq, if_neg (by omega), if_neg (by omega), if_neg (by omega), if_neg (by omega), val_eq, gval_eq, mayL_map, hk]
  generalize hRe : ofL noF g.rules l = R at *
  obtain ⟨F, hF⟩ : ∃ F, mayK 7 (e.kids.map (Ex.may R)) = F := ⟨_, rfl⟩
  rw [hF]
  have HF : Hid (mayK 7 (e.kids.map (Ex.may R)) = F) := hF
  have HKb : Hid (Kb w g e ((w.alloc (.cells #[.slice g.a g.rules.length g.c] 24)).alloc (.cells e.cells 57))) := Kb.new w g e
  have HI : Hid (∀ x ∈ e.kids, ∀ W, Below w.heap.size w W → Calls Try.prog 69 #[.agg #[.slice g.a g.rules.length g.c], .slice (some ⟨K, 0, none⟩) g.rules.length c, x.val] W fun r W' => r = .returned (.int .i64 (encF (x.may R))) ∧ Below W.heap.size W W') := fun x hx W hb => by
    obtain ⟨j, hj⟩ := List.getElem?_of_mem hx
    have := ih x hx W ((hin.kid hj).2.grow hb) (hK.grow hb)
    rw [hRe, gval_eq] at this
    exact this
  have HC : Hid (∀ (i : Nat) (x : Ex), e.kids[i]? = some x → ∀ W, Below w.heap.size w W → ∃ b o, e.a = some ⟨b, o, none⟩ ∧ b < w.heap.size ∧ ∀ m, m < 7 → W.cell? ⟨b, o + i * 7 + m, none⟩ = x.cells[m]?) := fun i x hx W hb => by
    obtain ⟨⟨b, o, ha, hb2, hc⟩, _⟩ := hin.kid hx
    exact ⟨b, o, ha, hb2, fun m hm => (hb.cell (p := ⟨b, _, none⟩) hb2).trans (hc m hm)⟩
  clear hin hK ih hRe hF
  rw [cells_eq, hk] at HKb
  have HKE : Hid (e.k = 7) := hk
  go_enter Try.func69, Try.ntmps69
  go_wp2_with fail
  clear hk
  go_loopw [7, 41] (fun p q wr => ∃ (j : Nat) (ao : Option Addr) (co : Nat), p = .slice ao j co ∧ q = .int .i64 j ∧ j ≤ e.kids.length ∧ Hid (Is wr (w.heap.size + 1 + 1) p ((e.kids.take j).map fun x => encF (x.may R)) ∧ Kb w g e wr)) (fun _ q _ => e.kids.length - (intOf q).toNat)
  case atStart => exact ⟨0, none, 0, rfl, rfl, Nat.zero_le _, World.ownsRow_nil _ _ _ _, HKb.out⟩
  case round =>
    clear HKb
    obtain ⟨j, ao, co, rfl, rfl, hj, HQ⟩ := hrel
    by_cases hend : j = e.kids.length
    · have g1 : decide (j < e.kids.length) = false := by simp; omega
      obtain ⟨a, r, har⟩ : ∃ a r, e.kids.map (Ex.may R) = a :: r := by
        cases hm : e.kids.map (Ex.may R) with
        | nil => have := congrArg List.length hm; simp at this; rw [this] at hpos; simp at hpos
        | cons a r => exact ⟨a, r, rfl⟩
      have hF := HF.out
      rw [har] at hF
      have hIs : Is wr (w.heap.size + 1 + 1) (.slice ao j co) ((a :: r).map encF) := by
        have h1 := HQ.out.1
        rw [hend, List.take_length] at h1
        rw [hend, ← har, List.map_map]
        exact h1
      have hjl : j = r.length + 1 := by have := congrArg List.length har; simp at this; omega
      have hlm : ((a :: r).map encF).length = j := by rw [hjl]; simp
      obtain ⟨gs, cps, hve, hN1, hN2, cx0⟩ := Is.at hIs (i := 0) (x := encF a) rfl
      rw [hlm] at hve
      have hcp : j ≤ cps := by
        rcases hIs.2 with ⟨h5, h6⟩ | ⟨g5, cap5, cur5, h5, h6, h7, h8⟩
        · rw [h5] at hve; cases hve
        · rw [h5] at hve; cases hve; simp at h8; omega
      have hFI : FI wr gs 0 (a :: r) := fun i f hf => by
        obtain ⟨gs', cps', hve', _, _, cx⟩ := Is.at hIs (i := i) (x := encF f) (by rw [List.getElem?_map, hf]; rfl)
        rw [hlm, hve] at hve'; cases hve'
        rw [Nat.zero_add]; exact cx
      cases hve
      have hbw : Hid (Below w.heap.size w wr ∧ Kb w g e wr) := ⟨HQ.out.2.bel, HQ.out.2⟩
      have ce0 : wr.cell? ⟨w.heap.size + 1, 0, none⟩ = some (.int .i64 7) := by rw [← HKE.out]; exact HQ.out.2.be.cell 0
      have hrl : r.length ≤ 100 := by omega
      have j0 : (0 : Int) < (j : Int) := by omega
      clear HI HC HF hend HQ hIs har HKE hpos hN1 hN2 hlm
      clear hFI hjl
      have hz : bits .or .i64 (bits .and .i64 (encF a) 2) (bits .and .i64 (encF a / 4) 1) = encF F := by rw [← hF]; obtain ⟨a1, a2, a3⟩ := a; cases a1 <;> cases a2 <;> cases a3 <;> rfl
      clear hF
      go_wp2_with fail
      go_ret
      exact ⟨by rw [← hz]; rfl, hbw.out.1⟩
    · have hlt : j < e.kids.length := by omega
      obtain ⟨x, hx⟩ : ∃ x, e.kids[j]? = some x := ⟨_, List.getElem?_eq_getElem hlt⟩
      obtain ⟨b, o, ha, hb, hc⟩ := HC.out j x hx wr HQ.out.2.bel
      have c0 := hc 0 (by omega)
      have c1 := hc 1 (by omega)
      have c2 := hc 2 (by omega)
      have c3 := hc 3 (by omega)
      have c4 := hc 4 (by omega)
      have c5 := hc 5 (by omega)
      have c6 := hc 6 (by omega)
      rw [cells_eq] at c0 c1 c2 c3 c4 c5 c6
      simp only [List.getElem?_toArray, List.getElem?_cons_zero, List.getElem?_cons_succ, Nat.add_zero] at c0 c1 c2 c3 c4 c5 c6
      have cG : wr.cell? ⟨w.heap.size, 0, none⟩ = some (.slice g.a g.rules.length g.c) := HQ.out.2.bg.cell 0
      rw [ha]
      have hA := (Below.refl _ wr).alloc (Nat.le_refl _) (.cells x.cells 57)
      have hix := HI.out x (List.mem_of_getElem? hx) _ (HQ.out.2.bel.alloc (HQ.out.2.bel.size) (.cells x.cells 57))
      have hsz : w.heap.size + 1 + 1 ≤ wr.heap.size := HQ.out.2.be.lt
      have HS : Hid (∀ W', Below (wr.alloc (.cells x.cells 57)).heap.size (wr.alloc (.cells x.cells 57)) W' → Is W' (w.heap.size + 1 + 1) (.slice ao j co) ((e.kids.take j).map fun x => encF (x.may R)) ∧ Kb w g e W' ∧ wr.heap.size ≤ W'.heap.size) := fun W' hb => ⟨(HQ.out.1.below hA).below hb, (HQ.out.2.step hA).step hb, by have := hb.size; simp at this; omega⟩
      have HT : Hid ((e.kids.take (j + 1)).map (fun x => encF (x.may R)) = (e.kids.take j).map (fun x => encF (x.may R)) ++ [encF (x.may R)]) := by
        unfold Hid; rw [List.take_add_one, hx, Option.toList_some, List.map_append]; rfl
      have hlj : ((e.kids.take j).map fun x => encF (x.may R)).length = j := by simp; omega
      rw [val_eq] at hix
      have cG2 := (HQ.out.2.step hA).bg.cell 0
      simp only [List.getElem?_toArray, List.getElem?_cons_zero] at cG2
      rw [cells_eq] at hix HS cG2
      generalize ((e.kids.take j).map fun x => encF (x.may R)) = rs at *
      generalize encF (x.may R) = q at *
      clear hc hend HI HC HQ hx hA HF HKE hb
      go_wp2_with (first
        | (go_at_call 69; refine hix.mono ?_; rintro e5 W2 ⟨rfl, hb2⟩; have hS2 : Hid _ := HS.out W2 hb2; clear hb2 hix HS c0 c1 c2 c3 c4 c5 c6 cG cG2)
        | (at_builtin; refine wpList_append_own _ rfl _ _ 86 rfl (w.heap.size + 1 + 1) 3 i0 _ 1 8 Try.underlying86 hi hz0 hz1 hz2 rfl (by decide) _ rs.length (ics rs) ?c0 (World.ownsRow.alloc hS2.out.1 _) ⟨W2.heap.size, 0, none⟩ 1 1 [.int .i64 q] rfl rfl ?c1 ?c2 ?c3 ?c4 ?c5 ?_))
      case c0 => rfl
      case c1 => intro i u hu; match i, hu with | 0, hu => (simp at hu; subst hu; simp [Addr.add])
      case c2 => intro u hu; simp at hu; subst hu; rfl
      case c3 => unfold maxLen; omega
      case c4 => omega
      case c5 => have := hS2.out.2.2; simp; omega
      intro v8 w8 hown8 hgrow8 _
      obtain ⟨g8, cap8, rfl, -, -⟩ := World.ownsRow.form hown8 (by omega)
      have hK8 : Kb w g e w8 := by
        have k := hS2.out.2.1
        have hs3 := hS2.out.2.2
        have hne : ∀ B, B < w.heap.size + 1 + 1 → some B ≠ (Value.slice ao j co).ownBlock := fun B hB e5 => by
          have := (World.ownsRow.lt hS2.out.1 B e5.symm).1
          omega
        exact ⟨(k.bel.alloc k.bel.size _).grown hgrow8 (by simp; omega) (fun q hq => by have := (World.ownsRow.lt hS2.out.1 q hq).1; omega), (k.bg.alloc _).kept hgrow8 (hne _ (by omega)), (k.be.alloc _).kept hgrow8 (hne _ (by omega))⟩
      have hN8 : Hid (Is w8 (w.heap.size + 1 + 1) (.slice (some ⟨g8, 0, none⟩) (j + 1) cap8) ((e.kids.take (j + 1)).map fun x => encF (x.may R)) ∧ Kb w g e w8) := by
        refine ⟨?_, hK8⟩
        unfold Is
        rw [HT.out, List.length_append, hlj]
        simpa [ics] using hown8
      clear hown8 hgrow8 hK8 hS2
      go_wp2_with fail
      exact ⟨⟨j + 1, some ⟨g8, 0, none⟩, cap8, rfl, by go_num, by omega, hN8⟩, by simp [intOf]; omega⟩
set_option maxRecDepth 20000 in
set_option maxHeartbeats 8000000 in
theorem ry_9 (g : Gr) (l : List Fa) (K c m : Nat) (e : Ex) (hk : e.k = 9) (hlen : e.kids.length ≤ 8) (hpos : 1 ≤ e.kids.length) (ih : ∀ x ∈ e.kids, RyC g l K c m x) : RyC g l K c m e := fun w hin hK => by
  obtain ⟨i0, hi, hz⟩ : ∃ i0, Try.prog.info? 3 = some i0 ∧ (i0.zero, i0.size, i0.bytes) = (some (.int .i64 0), 1, 8) := by
    simpa [Option.map_eq_some_iff] using Try.info3
  simp only [Prod.mk.injEq] at hz
  obtain ⟨hz0, hz1, hz2⟩ := hz
  rw [may_eq, if_neg (by omega), if_neg (by omega), if_neg (by omega), if_neg (by omega), val_eq, gval_eq, mayL_map, hk]
  generalize hRe : ofL noF g.rules l = R at *
  obtain ⟨F, hF⟩ : ∃ F, mayK 9 (e.kids.map (Ex.may R)) = F := ⟨_, rfl⟩
  rw [hF]
  have HF : Hid (mayK 9 (e.kids.map (Ex.may R)) = F) := hF
  have HKb : Hid (Kb w g e ((w.alloc (.cells #[.slice g.a g.rules.length g.c] 24)).alloc (.cells e.cells 57))) := Kb.new w g e
  have HI : Hid (∀ x ∈ e.kids, ∀ W, Below w.heap.size w W → Calls Try.prog 69 #[.agg #[.slice g.a g.rules.length g.c], .slice (some ⟨K, 0, none⟩) g.rules.length c, x.val] W fun r W' => r = .returned (.int .i64 (encF (x.may R))) ∧ Below W.heap.size W W') := fun x hx W hb => by
    obtain ⟨j, hj⟩ := List.getElem?_of_mem hx
    have := ih x hx W ((hin.kid hj).2.grow hb) (hK.grow hb)
    rw [hRe, gval_eq] at this
    exact this
  have HC : Hid (∀ (i : Nat) (x : Ex), e.kids[i]? = some x → ∀ W, Below w.heap.size w W → ∃ b o, e.a = some ⟨b, o, none⟩ ∧ b < w.heap.size ∧ ∀ m, m < 7 → W.cell? ⟨b, o + i * 7 + m, none⟩ = x.cells[m]?) := fun i x hx W hb => by
    obtain ⟨⟨b, o, ha, hb2, hc⟩, _⟩ := hin.kid hx
    exact ⟨b, o, ha, hb2, fun m hm => (hb.cell (p := ⟨b, _, none⟩) hb2).trans (hc m hm)⟩
  clear hin hK ih hRe hF
  rw [cells_eq, hk] at HKb
  have HKE : Hid (e.k = 9) := hk
  go_enter Try.func69, Try.ntmps69
  go_wp2_with fail
  clear hk
  go_loopw [7, 41] (fun p q wr => ∃ (j : Nat) (ao : Option Addr) (co : Nat), p = .slice ao j co ∧ q = .int .i64 j ∧ j ≤ e.kids.length ∧ Hid (Is wr (w.heap.size + 1 + 1) p ((e.kids.take j).map fun x => encF (x.may R)) ∧ Kb w g e wr)) (fun _ q _ => e.kids.length - (intOf q).toNat)
  case atStart => exact ⟨0, none, 0, rfl, rfl, Nat.zero_le _, World.ownsRow_nil _ _ _ _, HKb.out⟩
  case round =>
    clear HKb
    obtain ⟨j, ao, co, rfl, rfl, hj, HQ⟩ := hrel
    by_cases hend : j = e.kids.length
    · have g1 : decide (j < e.kids.length) = false := by simp; omega
      obtain ⟨a, r, har⟩ : ∃ a r, e.kids.map (Ex.may R) = a :: r := by
        cases hm : e.kids.map (Ex.may R) with
        | nil => have := congrArg List.length hm; simp at this; rw [this] at hpos; simp at hpos
        | cons a r => exact ⟨a, r, rfl⟩
      have hF := HF.out
      rw [har] at hF
      have hIs : Is wr (w.heap.size + 1 + 1) (.slice ao j co) ((a :: r).map encF) := by
        have h1 := HQ.out.1
        rw [hend, List.take_length] at h1
        rw [hend, ← har, List.map_map]
        exact h1
      have hjl : j = r.length + 1 := by have := congrArg List.length har; simp at this; omega
      have hlm : ((a :: r).map encF).length = j := by rw [hjl]; simp
      obtain ⟨gs, cps, hve, hN1, hN2, cx0⟩ := Is.at hIs (i := 0) (x := encF a) rfl
      rw [hlm] at hve
      have hcp : j ≤ cps := by
        rcases hIs.2 with ⟨h5, h6⟩ | ⟨g5, cap5, cur5, h5, h6, h7, h8⟩
        · rw [h5] at hve; cases hve
        · rw [h5] at hve; cases hve; simp at h8; omega
      have hFI : FI wr gs 0 (a :: r) := fun i f hf => by
        obtain ⟨gs', cps', hve', _, _, cx⟩ := Is.at hIs (i := i) (x := encF f) (by rw [List.getElem?_map, hf]; rfl)
        rw [hlm, hve] at hve'; cases hve'
        rw [Nat.zero_add]; exact cx
      cases hve
      have hbw : Hid (Below w.heap.size w wr ∧ Kb w g e wr) := ⟨HQ.out.2.bel, HQ.out.2⟩
      have ce0 : wr.cell? ⟨w.heap.size + 1, 0, none⟩ = some (.int .i64 9) := by rw [← HKE.out]; exact HQ.out.2.be.cell 0
      have hrl : r.length ≤ 100 := by omega
      have j0 : (0 : Int) < (j : Int) := by omega
      clear HI HC HF hend HQ hIs har HKE hpos hN1 hN2 hlm
      clear hFI hjl
      have hz : bits .or .i64 (bits .and .i64 (encF a) 2) (bits .and .i64 (encF a / 4) 1) = encF (againF a) := by obtain ⟨a1, a2, a3⟩ := a; cases a1 <;> cases a2 <;> cases a3 <;> rfl
      have hbox := BoxN.new wr 3 #[.int .i64 (encF a), .int .i64 (encF ((true, false, false)))]
      have hma := mayOne_any [(true, false, false)] a wr.heap.size 0 2 (wr.alloc (.cells #[.int .i64 (encF a), .int .i64 (encF ((true, false, false)))] 3)) (fun i f hf => by
        match i, hf with
        | 0, hf => cases hf; exact hbox.cell 0
        | 1, hf => cases hf; exact hbox.cell 1) (by simp) (by simp)
      rw [show foldF orF [a, (true, false, false)] = F from hF] at hma
      have hbw2 : Hid (Below w.heap.size w (wr.alloc (.cells #[.int .i64 (encF a), .int .i64 (encF ((true, false, false)))] 3))) := hbw.out.1.alloc hbw.out.1.size _
      simp only [List.length_cons, List.length_nil, Nat.zero_add, Nat.reduceAdd] at hma
      clear hF
      go_wp2_with (go_at_call 102; refine hma.mono ?_; rintro e5 W2 ⟨rfl, hb2⟩)
      go_ret
      exact ⟨rfl, hbw2.out.trans (hb2.mono hbw2.out.size)⟩
    · have hlt : j < e.kids.length := by omega
      obtain ⟨x, hx⟩ : ∃ x, e.kids[j]? = some x := ⟨_, List.getElem?_eq_getElem hlt⟩
      obtain ⟨b, o, ha, hb, hc⟩ := HC.out j x hx wr HQ.out.2.bel
      have c0 := hc 0 (by omega)
      have c1 := hc 1 (by omega)
      have c2 := hc 2 (by omega)
      have c3 := hc 3 (by omega)
      have c4 := hc 4 (by omega)
      have c5 := hc 5 (by omega)
      have c6 := hc 6 (by omega)
      rw [cells_eq] at c0 c1 c2 c3 c4 c5 c6
      simp only [List.getElem?_toArray, List.getElem?_cons_zero, List.getElem?_cons_succ, Nat.add_zero] at c0 c1 c2 c3 c4 c5 c6
      have cG : wr.cell? ⟨w.heap.size, 0, none⟩ = some (.slice g.a g.rules.length g.c) := HQ.out.2.bg.cell 0
      rw [ha]
      have hA := (Below.refl _ wr).alloc (Nat.le_refl _) (.cells x.cells 57)
      have hix := HI.out x (List.mem_of_getElem? hx) _ (HQ.out.2.bel.alloc (HQ.out.2.bel.size) (.cells x.cells 57))
      have hsz : w.heap.size + 1 + 1 ≤ wr.heap.size := HQ.out.2.be.lt
      have HS : Hid (∀ W', Below (wr.alloc (.cells x.cells 57)).heap.size (wr.alloc (.cells x.cells 57)) W' → Is W' (w.heap.size + 1 + 1) (.slice ao j co) ((e.kids.take j).map fun x => encF (x.may R)) ∧ Kb w g e W' ∧ wr.heap.size ≤ W'.heap.size) := fun W' hb => ⟨(HQ.out.1.below hA).below hb, (HQ.out.2.step hA).step hb, by have := hb.size; simp at this; omega⟩
      have HT : Hid ((e.kids.take (j + 1)).map (fun x => encF (x.may R)) = (e.kids.take j).map (fun x => encF (x.may R)) ++ [encF (x.may R)]) := by
        unfold Hid; rw [List.take_add_one, hx, Option.toList_some, List.map_append]; rfl
      have hlj : ((e.kids.take j).map fun x => encF (x.may R)).length = j := by simp; omega
      rw [val_eq] at hix
      have cG2 := (HQ.out.2.step hA).bg.cell 0
      simp only [List.getElem?_toArray, List.getElem?_cons_zero] at cG2
      rw [cells_eq] at hix HS cG2
      generalize ((e.kids.take j).map fun x => encF (x.may R)) = rs at *
      generalize encF (x.may R) = q at *
      clear hc hend HI HC HQ hx hA HF HKE hb
      go_wp2_with (first
        | (go_at_call 69; refine hix.mono ?_; rintro e5 W2 ⟨rfl, hb2⟩; have hS2 : Hid _ := HS.out W2 hb2; clear hb2 hix HS c0 c1 c2 c3 c4 c5 c6 cG cG2)
        | (at_builtin; refine wpList_append_own _ rfl _ _ 86 rfl (w.heap.size + 1 + 1) 3 i0 _ 1 8 Try.underlying86 hi hz0 hz1 hz2 rfl (by decide) _ rs.length (ics rs) ?c0 (World.ownsRow.alloc hS2.out.1 _) ⟨W2.heap.size, 0, none⟩ 1 1 [.int .i64 q] rfl rfl ?c1 ?c2 ?c3 ?c4 ?c5 ?_))
      case c0 => rfl
      case c1 => intro i u hu; match i, hu with | 0, hu => (simp at hu; subst hu; simp [Addr.add])
      case c2 => intro u hu; simp at hu; subst hu; rfl
      case c3 => unfold maxLen; omega
      case c4 => omega
      case c5 => have := hS2.out.2.2; simp; omega
      intro v8 w8 hown8 hgrow8 _
      obtain ⟨g8, cap8, rfl, -, -⟩ := World.ownsRow.form hown8 (by omega)
      have hK8 : Kb w g e w8 := by
        have k := hS2.out.2.1
        have hs3 := hS2.out.2.2
        have hne : ∀ B, B < w.heap.size + 1 + 1 → some B ≠ (Value.slice ao j co).ownBlock := fun B hB e5 => by
          have := (World.ownsRow.lt hS2.out.1 B e5.symm).1
          omega
        exact ⟨(k.bel.alloc k.bel.size _).grown hgrow8 (by simp; omega) (fun q hq => by have := (World.ownsRow.lt hS2.out.1 q hq).1; omega), (k.bg.alloc _).kept hgrow8 (hne _ (by omega)), (k.be.alloc _).kept hgrow8 (hne _ (by omega))⟩
      have hN8 : Hid (Is w8 (w.heap.size + 1 + 1) (.slice (some ⟨g8, 0, none⟩) (j + 1) cap8) ((e.kids.take (j + 1)).map fun x => encF (x.may R)) ∧ Kb w g e w8) := by
        refine ⟨?_, hK8⟩
        unfold Is
        rw [HT.out, List.length_append, hlj]
        simpa [ics] using hown8
      clear hown8 hgrow8 hK8 hS2
      go_wp2_with fail
      exact ⟨⟨j + 1, some ⟨g8, 0, none⟩, cap8, rfl, by go_num, by omega, hN8⟩, by simp [intOf]; omega⟩
end Go.Proofs.Ytokdaapmejccbaa
namespace Go.Proofs.Ytokdaapmejccbaa
open Go.RowKit
set_option linter.unusedVariables false
set_option linter.unusedSimpArgs false
set_option maxRecDepth 20000 in
set_option maxHeartbeats 8000000 in
theorem ry_8 (g : Gr) (l : List Fa) (K c m : Nat) (e : Ex) (hk : e.k = 8) (hlen : e.kids.length ≤ 8) (hpos : 1 ≤ e.kids.length) (ih : ∀ x ∈ e.kids, RyC g l K c m x) : RyC g l K c m e := fun w hin hK => by
  obtain ⟨i0, hi, hz⟩ : ∃ i0, Try.prog.info? 3 = some i0 ∧ (i0.zero, i0.size, i0.bytes) = (some (.int .i64 0), 1, 8) := by
    simpa [Option.map_eq_some_iff] using Try.info3
  simp only [Prod.mk.injEq] at hz
  obtain ⟨hz0, hz1, hz2⟩ := hz
  rw [may_eq, if_neg (by omega), if_neg (by omega), if_neg (by omega), if_neg (by omega), val_eq, gval_eq, mayL_map, hk]
  generalize hRe : ofL noF g.rules l = R at *
  obtain ⟨F, hF⟩ : ∃ F, mayK 8 (e.kids.map (Ex.may R)) = F := ⟨_, rfl⟩
  rw [hF]
  have HF : Hid (mayK 8 (e.kids.map (Ex.may R)) = F) := hF
  have HKb : Hid (Kb w g e ((w.alloc (.cells #[.slice g.a g.rules.length g.c] 24)).alloc (.cells e.cells 57))) := Kb.new w g e
  have HI : Hid (∀ x ∈ e.kids, ∀ W, Below w.heap.size w W → Calls Try.prog 69 #[.agg #[.slice g.a g.rules.length g.c], .slice (some ⟨K, 0, none⟩) g.rules.length c, x.val] W fun r W' => r = .returned (.int .i64 (encF (x.may R))) ∧ Below W.heap.size W W') := fun x hx W hb => by
    obtain ⟨j, hj⟩ := List.getElem?_of_mem hx
    have := ih x hx W ((hin.kid hj).2.grow hb) (hK.grow hb)
    rw [hRe, gval_eq] at this
    exact this
  have HC : Hid (∀ (i : Nat) (x : Ex), e.kids[i]? = some x → ∀ W, Below w.heap.size w W → ∃ b o, e.a = some ⟨b, o, none⟩ ∧ b < w.heap.size ∧ ∀ m, m < 7 → W.cell? ⟨b, o + i * 7 + m, none⟩ = x.cells[m]?) := fun i x hx W hb => by
    obtain ⟨⟨b, o, ha, hb2, hc⟩, _⟩ := hin.kid hx
    exact ⟨b, o, ha, hb2, fun m hm => (hb.cell (p := ⟨b, _, none⟩) hb2).trans (hc m hm)⟩
  clear hin hK ih hRe hF
  rw [cells_eq, hk] at HKb
  have HKE : Hid (e.k = 8) := hk
  go_enter Try.func69, Try.ntmps69
  go_wp2_with fail
  clear hk
  go_loopw [7, 41] (fun p q wr => ∃ (j : Nat) (ao : Option Addr) (co : Nat), p = .slice ao j co ∧ q = .int .i64 j ∧ j ≤ e.kids.length ∧ Hid (Is wr (w.heap.size + 1 + 1) p ((e.kids.take j).map fun x => encF (x.may R)) ∧ Kb w g e wr)) (fun _ q _ => e.kids.length - (intOf q).toNat)
  case atStart => exact ⟨0, none, 0, rfl, rfl, Nat.zero_le _, World.ownsRow_nil _ _ _ _, HKb.out⟩
  case round =>
    clear HKb
    obtain ⟨j, ao, co, rfl, rfl, hj, HQ⟩ := hrel
    by_cases hend : j = e.kids.length
    · have g1 : decide (j < e.kids.length) = false := by simp; omega
      obtain ⟨a, r, har⟩ : ∃ a r, e.kids.map (Ex.may R) = a :: r := by
        cases hm : e.kids.map (Ex.may R) with
        | nil => have := congrArg List.length hm; simp at this; rw [this] at hpos; simp at hpos
        | cons a r => exact ⟨a, r, rfl⟩
      have hF := HF.out
      rw [har] at hF
      have hIs : Is wr (w.heap.size + 1 + 1) (.slice ao j co) ((a :: r).map encF) := by
        have h1 := HQ.out.1
        rw [hend, List.take_length] at h1
        rw [hend, ← har, List.map_map]
        exact h1
      have hjl : j = r.length + 1 := by have := congrArg List.length har; simp at this; omega
      have hlm : ((a :: r).map encF).length = j := by rw [hjl]; simp
      obtain ⟨gs, cps, hve, hN1, hN2, cx0⟩ := Is.at hIs (i := 0) (x := encF a) rfl
      rw [hlm] at hve
      have hcp : j ≤ cps := by
        rcases hIs.2 with ⟨h5, h6⟩ | ⟨g5, cap5, cur5, h5, h6, h7, h8⟩
        · rw [h5] at hve; cases hve
        · rw [h5] at hve; cases hve; simp at h8; omega
      have hFI : FI wr gs 0 (a :: r) := fun i f hf => by
        obtain ⟨gs', cps', hve', _, _, cx⟩ := Is.at hIs (i := i) (x := encF f) (by rw [List.getElem?_map, hf]; rfl)
        rw [hlm, hve] at hve'; cases hve'
        rw [Nat.zero_add]; exact cx
      cases hve
      have hbw : Hid (Below w.heap.size w wr ∧ Kb w g e wr) := ⟨HQ.out.2.bel, HQ.out.2⟩
      have ce0 : wr.cell? ⟨w.heap.size + 1, 0, none⟩ = some (.int .i64 8) := by rw [← HKE.out]; exact HQ.out.2.be.cell 0
      have hrl : r.length ≤ 100 := by omega
      have j0 : (0 : Int) < (j : Int) := by omega
      clear HI HC HF hend HQ hIs har HKE hpos hN1 hN2 hlm
      clear hFI hjl
      have hz : bits .or .i64 (bits .and .i64 (encF a) 2) (bits .and .i64 (encF a / 4) 1) = encF (againF a) := by obtain ⟨a1, a2, a3⟩ := a; cases a1 <;> cases a2 <;> cases a3 <;> rfl
      have hbox := BoxN.new wr 3 #[.int .i64 (encF a), .int .i64 (encF (againF a))]
      have hma := mayAll_any [againF a] a wr.heap.size 0 2 (wr.alloc (.cells #[.int .i64 (encF a), .int .i64 (encF (againF a))] 3)) (fun i f hf => by
        match i, hf with
        | 0, hf => cases hf; exact hbox.cell 0
        | 1, hf => cases hf; exact hbox.cell 1) (by simp) (by simp)
      rw [show foldF thenF [a, againF a] = F from hF] at hma
      have hbw2 : Hid (Below w.heap.size w (wr.alloc (.cells #[.int .i64 (encF a), .int .i64 (encF (againF a))] 3))) := hbw.out.1.alloc hbw.out.1.size _
      simp only [List.length_cons, List.length_nil, Nat.zero_add, Nat.reduceAdd] at hma
      clear hF
      go_wp2_with (go_at_call 101; refine hma.mono ?_; rintro e5 W2 ⟨rfl, hb2⟩)
      go_ret
      exact ⟨rfl, hbw2.out.trans (hb2.mono hbw2.out.size)⟩
    · have hlt : j < e.kids.length := by omega
      obtain ⟨x, hx⟩ : ∃ x, e.kids[j]? = some x := ⟨_, List.getElem?_eq_getElem hlt⟩
      obtain ⟨b, o, ha, hb, hc⟩ := HC.out j x hx wr HQ.out.2.bel
      have c0 := hc 0 (by omega)
      have c1 := hc 1 (by omega)
      have c2 := hc 2 (by omega)
      have c3 := hc 3 (by omega)
      have c4 := hc 4 (by omega)
      have c5 := hc 5 (by omega)
      have c6 := hc 6 (by omega)
      rw [cells_eq] at c0 c1 c2 c3 c4 c5 c6
      simp only [List.getElem?_toArray, List.getElem?_cons_zero, List.getElem?_cons_succ, Nat.add_zero] at c0 c1 c2 c3 c4 c5 c6
      have cG : wr.cell? ⟨w.heap.size, 0, none⟩ = some (.slice g.a g.rules.length g.c) := HQ.out.2.bg.cell 0
      rw [ha]
      have hA := (Below.refl _ wr).alloc (Nat.le_refl _) (.cells x.cells 57)
      have hix := HI.out x (List.mem_of_getElem? hx) _ (HQ.out.2.bel.alloc (HQ.out.2.bel.size) (.cells x.cells 57))
      have hsz : w.heap.size + 1 + 1 ≤ wr.heap.size := HQ.out.2.be.lt
      have HS : Hid (∀ W', Below (wr.alloc (.cells x.cells 57)).heap.size (wr.alloc (.cells x.cells 57)) W' → Is W' (w.heap.size + 1 + 1) (.slice ao j co) ((e.kids.take j).map fun x => encF (x.may R)) ∧ Kb w g e W' ∧ wr.heap.size ≤ W'.heap.size) := fun W' hb => ⟨(HQ.out.1.below hA).below hb, (HQ.out.2.step hA).step hb, by have := hb.size; simp at this; omega⟩
      have HT : Hid ((e.kids.take (j + 1)).map (fun x => encF (x.may R)) = (e.kids.take j).map (fun x => encF (x.may R)) ++ [encF (x.may R)]) := by
        unfold Hid; rw [List.take_add_one, hx, Option.toList_some, List.map_append]; rfl
      have hlj : ((e.kids.take j).map fun x => encF (x.may R)).length = j := by simp; omega
      rw [val_eq] at hix
      have cG2 := (HQ.out.2.step hA).bg.cell 0
      simp only [List.getElem?_toArray, List.getElem?_cons_zero] at cG2
      rw [cells_eq] at hix HS cG2
      generalize ((e.kids.take j).map fun x => encF (x.may R)) = rs at *
      generalize encF (x.may R) = q at *
      clear hc hend HI HC HQ hx hA HF HKE hb
      go_wp2_with (first
        | (go_at_call 69; refine hix.mono ?_; rintro e5 W2 ⟨rfl, hb2⟩; have hS2 : Hid _ := HS.out W2 hb2; clear hb2 hix HS c0 c1 c2 c3 c4 c5 c6 cG cG2)
        | (at_builtin; refine wpList_append_own _ rfl _ _ 86 rfl (w.heap.size + 1 + 1) 3 i0 _ 1 8 Try.underlying86 hi hz0 hz1 hz2 rfl (by decide) _ rs.length (ics rs) ?c0 (World.ownsRow.alloc hS2.out.1 _) ⟨W2.heap.size, 0, none⟩ 1 1 [.int .i64 q] rfl rfl ?c1 ?c2 ?c3 ?c4 ?c5 ?_))
      case c0 => rfl
      case c1 => intro i u hu; match i, hu with | 0, hu => (simp at hu; subst hu; simp [Addr.add])
      case c2 => intro u hu; simp at hu; subst hu; rfl
      case c3 => unfold maxLen; omega
      case c4 => omega
      case c5 => have := hS2.out.2.2; simp; omega
      intro v8 w8 hown8 hgrow8 _
      obtain ⟨g8, cap8, rfl, -, -⟩ := World.ownsRow.form hown8 (by omega)
      have hK8 : Kb w g e w8 := by
        have k := hS2.out.2.1
        have hs3 := hS2.out.2.2
        have hne : ∀ B, B < w.heap.size + 1 + 1 → some B ≠ (Value.slice ao j co).ownBlock := fun B hB e5 => by
          have := (World.ownsRow.lt hS2.out.1 B e5.symm).1
          omega
        exact ⟨(k.bel.alloc k.bel.size _).grown hgrow8 (by simp; omega) (fun q hq => by have := (World.ownsRow.lt hS2.out.1 q hq).1; omega), (k.bg.alloc _).kept hgrow8 (hne _ (by omega)), (k.be.alloc _).kept hgrow8 (hne _ (by omega))⟩
      have hN8 : Hid (Is w8 (w.heap.size + 1 + 1) (.slice (some ⟨g8, 0, none⟩) (j + 1) cap8) ((e.kids.take (j + 1)).map fun x => encF (x.may R)) ∧ Kb w g e w8) := by
        refine ⟨?_, hK8⟩
        unfold Is
        rw [HT.out, List.length_append, hlj]
        simpa [ics] using hown8
      clear hown8 hgrow8 hK8 hS2
      go_wp2_with fail
      exact ⟨⟨j + 1, some ⟨g8, 0, none⟩, cap8, rfl, by go_num, by omega, hN8⟩, by simp [intOf]; omega⟩
set_option maxRecDepth 20000 in
set_option maxHeartbeats 8000000 in
theorem ry_10 (g : Gr) (l : List Fa) (K c m : Nat) (e : Ex) (hk : e.k = 10) (hlen : e.kids.length ≤ 8) (hpos : 1 ≤ e.kids.length) (ih : ∀ x ∈ e.kids, RyC g l K c m x) : RyC g l K c m e := fun w hin hK => by
  obtain ⟨i0, hi, hz⟩ : ∃ i0, Try.prog.info? 3 = some i0 ∧ (i0.zero, i0.size, i0.bytes) = (some (.int .i64 0), 1, 8) := by
    simpa [Option.map_eq_some_iff] using Try.info3
  simp only [Prod.mk.injEq] at hz
  obtain ⟨hz0, hz1, hz2⟩ := hz
  rw [may_eq, if_neg (by omega), if_neg (by omega), if_neg (by omega), if_neg (by omega), val_eq, gval_eq, mayL_map, hk]
  generalize hRe : ofL noF g.rules l = R at *
  obtain ⟨F, hF⟩ : ∃ F, mayK 10 (e.kids.map (Ex.may R)) = F := ⟨_, rfl⟩
  rw [hF]
  have HF : Hid (mayK 10 (e.kids.map (Ex.may R)) = F) := hF
  have HKb : Hid (Kb w g e ((w.alloc (.cells #[.slice g.a g.rules.length g.c] 24)).alloc (.cells e.cells 57))) := Kb.new w g e
  have HI : Hid (∀ x ∈ e.kids, ∀ W, Below w.heap.size w W → Calls Try.prog 69 #[.agg #[.slice g.a g.rules.length g.c], .slice (some ⟨K, 0, none⟩) g.rules.length c, x.val] W fun r W' => r = .returned (.int .i64 (encF (x.may R))) ∧ Below W.heap.size W W') := fun x hx W hb => by
    obtain ⟨j, hj⟩ := List.getElem?_of_mem hx
    have := ih x hx W ((hin.kid hj).2.grow hb) (hK.grow hb)
    rw [hRe, gval_eq] at this
    exact this
  have HC : Hid (∀ (i : Nat) (x : Ex), e.kids[i]? = some x → ∀ W, Below w.heap.size w W → ∃ b o, e.a = some ⟨b, o, none⟩ ∧ b < w.heap.size ∧ ∀ m, m < 7 → W.cell? ⟨b, o + i * 7 + m, none⟩ = x.cells[m]?) := fun i x hx W hb => by
    obtain ⟨⟨b, o, ha, hb2, hc⟩, _⟩ := hin.kid hx
    exact ⟨b, o, ha, hb2, fun m hm => (hb.cell (p := ⟨b, _, none⟩) hb2).trans (hc m hm)⟩
  clear hin hK ih hRe hF
  rw [cells_eq, hk] at HKb
  have HKE : Hid (e.k = 10) := hk
  go_enter Try.func69, Try.ntmps69
  go_wp2_with fail
  clear hk
  go_loopw [7, 41] (fun p q wr => ∃ (j : Nat) (ao : Option Addr) (co : Nat), p = .slice ao j co ∧ q = .int .i64 j ∧ j ≤ e.kids.length ∧ Hid (Is wr (w.heap.size + 1 + 1) p ((e.kids.take j).map fun x => encF (x.may R)) ∧ Kb w g e wr)) (fun _ q _ => e.kids.length - (intOf q).toNat)
  case atStart => exact ⟨0, none, 0, rfl, rfl, Nat.zero_le _, World.ownsRow_nil _ _ _ _, HKb.out⟩
  case round =>
    clear HKb
    obtain ⟨j, ao, co, rfl, rfl, hj, HQ⟩ := hrel
    by_cases hend : j = e.kids.length
    · have g1 : decide (j < e.kids.length) = false := by simp; omega
      obtain ⟨a, r, har⟩ : ∃ a r, e.kids.map (Ex.may R) = a :: r := by
        cases hm : e.kids.map (Ex.may R) with
        | nil => have := congrArg List.length hm; simp at this; rw [this] at hpos; simp at hpos
        | cons a r => exact ⟨a, r, rfl⟩
      have hF := HF.out
      rw [har] at hF
      have hIs : Is wr (w.heap.size + 1 + 1) (.slice ao j co) ((a :: r).map encF) := by
        have h1 := HQ.out.1
        rw [hend, List.take_length] at h1
        rw [hend, ← har, List.map_map]
        exact h1
      have hjl : j = r.length + 1 := by have := congrArg List.length har; simp at this; omega
      have hlm : ((a :: r).map encF).length = j := by rw [hjl]; simp
      obtain ⟨gs, cps, hve, hN1, hN2, cx0⟩ := Is.at hIs (i := 0) (x := encF a) rfl
      rw [hlm] at hve
      have hcp : j ≤ cps := by
        rcases hIs.2 with ⟨h5, h6⟩ | ⟨g5, cap5, cur5, h5, h6, h7, h8⟩
        · rw [h5] at hve; cases hve
        · rw [h5] at hve; cases hve; simp at h8; omega
      have hFI : FI wr gs 0 (a :: r) := fun i f hf => by
        obtain ⟨gs', cps', hve', _, _, cx⟩ := Is.at hIs (i := i) (x := encF f) (by rw [List.getElem?_map, hf]; rfl)
        rw [hlm, hve] at hve'; cases hve'
        rw [Nat.zero_add]; exact cx
      cases hve
      have hbw : Hid (Below w.heap.size w wr ∧ Kb w g e wr) := ⟨HQ.out.2.bel, HQ.out.2⟩
      have ce0 : wr.cell? ⟨w.heap.size + 1, 0, none⟩ = some (.int .i64 10) := by rw [← HKE.out]; exact HQ.out.2.be.cell 0
      have hrl : r.length ≤ 100 := by omega
      have j0 : (0 : Int) < (j : Int) := by omega
      clear HI HC HF hend HQ hIs har HKE hpos hN1 hN2 hlm
      clear hFI hjl
      have hz : bits .or .i64 (if sucF a then 1 else 0) (bits .and .i64 (encF a) 4) = encF F := by rw [← hF]; obtain ⟨a1, a2, a3⟩ := a; cases a1 <;> cases a2 <;> cases a3 <;> rfl
      have hs : decide (0 < bits .and .i64 (encF a) 3) = sucF a := by obtain ⟨a1, a2, a3⟩ := a; cases a1 <;> cases a2 <;> cases a3 <;> rfl
      cases hsu : sucF a
      all_goals
        rw [hsu] at hz hs
        simp only [if_true, Bool.false_eq_true, if_false] at hz
        clear hsu hF
        go_wp2_with fail
        go_ret
        exact ⟨by rw [← hz]; rfl, hbw.out.1⟩
    · have hlt : j < e.kids.length := by omega
      obtain ⟨x, hx⟩ : ∃ x, e.kids[j]? = some x := ⟨_, List.getElem?_eq_getElem hlt⟩
      obtain ⟨b, o, ha, hb, hc⟩ := HC.out j x hx wr HQ.out.2.bel
      have c0 := hc 0 (by omega)
      have c1 := hc 1 (by omega)
      have c2 := hc 2 (by omega)
      have c3 := hc 3 (by omega)
      have c4 := hc 4 (by omega)
      have c5 := hc 5 (by omega)
      have c6 := hc 6 (by omega)
      rw [cells_eq] at c0 c1 c2 c3 c4 c5 c6
      simp only [List.getElem?_toArray, List.getElem?_cons_zero, List.getElem?_cons_succ, Nat.add_zero] at c0 c1 c2 c3 c4 c5 c6
      have cG : wr.cell? ⟨w.heap.size, 0, none⟩ = some (.slice g.a g.rules.length g.c) := HQ.out.2.bg.cell 0
      rw [ha]
      have hA := (Below.refl _ wr).alloc (Nat.le_refl _) (.cells x.cells 57)
      have hix := HI.out x (List.mem_of_getElem? hx) _ (HQ.out.2.bel.alloc (HQ.out.2.bel.size) (.cells x.cells 57))
      have hsz : w.heap.size + 1 + 1 ≤ wr.heap.size := HQ.out.2.be.lt
      have HS : Hid (∀ W', Below (wr.alloc (.cells x.cells 57)).heap.size (wr.alloc (.cells x.cells 57)) W' → Is W' (w.heap.size + 1 + 1) (.slice ao j co) ((e.kids.take j).map fun x => encF (x.may R)) ∧ Kb w g e W' ∧ wr.heap.size ≤ W'.heap.size) := fun W' hb => ⟨(HQ.out.1.below hA).below hb, (HQ.out.2.step hA).step hb, by have := hb.size; simp at this; omega⟩
      have HT : Hid ((e.kids.take (j + 1)).map (fun x => encF (x.may R)) = (e.kids.take j).map (fun x => encF (x.may R)) ++ [encF (x.may R)]) := by
        unfold Hid; rw [List.take_add_one, hx, Option.toList_some, List.map_append]; rfl
      have hlj : ((e.kids.take j).map fun x => encF (x.may R)).length = j := by simp; omega
      rw [val_eq] at hix
      have cG2 := (HQ.out.2.step hA).bg.cell 0
      simp only [List.getElem?_toArray, List.getElem?_cons_zero] at cG2
      rw [cells_eq] at hix HS cG2
      generalize ((e.kids.take j).map fun x => encF (x.may R)) = rs at *
      generalize encF (x.may R) = q at *
      clear hc hend HI HC HQ hx hA HF HKE hb
      go_wp2_with (first
        | (go_at_call 69; refine hix.mono ?_; rintro e5 W2 ⟨rfl, hb2⟩; have hS2 : Hid _ := HS.out W2 hb2; clear hb2 hix HS c0 c1 c2 c3 c4 c5 c6 cG cG2)
        | (at_builtin; refine wpList_append_own _ rfl _ _ 86 rfl (w.heap.size + 1 + 1) 3 i0 _ 1 8 Try.underlying86 hi hz0 hz1 hz2 rfl (by decide) _ rs.length (ics rs) ?c0 (World.ownsRow.alloc hS2.out.1 _) ⟨W2.heap.size, 0, none⟩ 1 1 [.int .i64 q] rfl rfl ?c1 ?c2 ?c3 ?c4 ?c5 ?_))
      case c0 => rfl
      case c1 => intro i u hu; match i, hu with | 0, hu => (simp at hu; subst hu; simp [Addr.add])
      case c2 => intro u hu; simp at hu; subst hu; rfl
      case c3 => unfold maxLen; omega
      case c4 => omega
      case c5 => have := hS2.out.2.2; simp; omega
      intro v8 w8 hown8 hgrow8 _
      obtain ⟨g8, cap8, rfl, -, -⟩ := World.ownsRow.form hown8 (by omega)
      have hK8 : Kb w g e w8 := by
        have k := hS2.out.2.1
        have hs3 := hS2.out.2.2
        have hne : ∀ B, B < w.heap.size + 1 + 1 → some B ≠ (Value.slice ao j co).ownBlock := fun B hB e5 => by
          have := (World.ownsRow.lt hS2.out.1 B e5.symm).1
          omega
        exact ⟨(k.bel.alloc k.bel.size _).grown hgrow8 (by simp; omega) (fun q hq => by have := (World.ownsRow.lt hS2.out.1 q hq).1; omega), (k.bg.alloc _).kept hgrow8 (hne _ (by omega)), (k.be.alloc _).kept hgrow8 (hne _ (by omega))⟩
      have hN8 : Hid (Is w8 (w.heap.size + 1 + 1) (.slice (some ⟨g8, 0, none⟩) (j + 1) cap8) ((e.kids.take (j + 1)).map fun x => encF (x.may R)) ∧ Kb w g e w8) := by
        refine ⟨?_, hK8⟩
        unfold Is
        rw [HT.out, List.length_append, hlj]
        simpa [ics] using hown8
      clear hown8 hgrow8 hK8 hS2
      go_wp2_with fail
      exact ⟨⟨j + 1, some ⟨g8, 0, none⟩, cap8, rfl, by go_num, by omega, hN8⟩, by simp [intOf]; omega⟩
set_option maxRecDepth 20000 in
set_option maxHeartbeats 8000000 in
theorem ry_11 (g : Gr) (l : List Fa) (K c m : Nat) (e : Ex) (hk : e.k = 11) (hlen : e.kids.length ≤ 8) (hpos : 1 ≤ e.kids.length) (ih : ∀ x ∈ e.kids, RyC g l K c m x) : RyC g l K c m e := fun w hin hK => by
  obtain ⟨i0, hi, hz⟩ : ∃ i0, Try.prog.info? 3 = some i0 ∧ (i0.zero, i0.size, i0.bytes) = (some (.int .i64 0), 1, 8) := by
    simpa [Option.map_eq_some_iff] using Try.info3
  simp only [Prod.mk.injEq] at hz
  obtain ⟨hz0, hz1, hz2⟩ := hz
  rw [may_eq, if_neg (by omega), if_neg (by omega), if_neg (by omega), if_neg (by omega), val_eq, gval_eq, mayL_map, hk]
  generalize hRe : ofL noF g.rules l = R at *
  obtain ⟨F, hF⟩ : ∃ F, mayK 11 (e.kids.map (Ex.may R)) = F := ⟨_, rfl⟩
  rw [hF]
  have HF : Hid (mayK 11 (e.kids.map (Ex.may R)) = F) := hF
  have HKb : Hid (Kb w g e ((w.alloc (.cells #[.slice g.a g.rules.length g.c] 24)).alloc (.cells e.cells 57))) := Kb.new w g e
  have HI : Hid (∀ x ∈ e.kids, ∀ W, Below w.heap.size w W → Calls Try.prog 69 #[.agg #[.slice g.a g.rules.length g.c], .slice (some ⟨K, 0, none⟩) g.rules.length c, x.val] W fun r W' => r = .returned (.int .i64 (encF (x.may R))) ∧ Below W.heap.size W W') := fun x hx W hb => by
    obtain ⟨j, hj⟩ := List.getElem?_of_mem hx
    have := ih x hx W ((hin.kid hj).2.grow hb) (hK.grow hb)
    rw [hRe, gval_eq] at this
    exact this
  have HC : Hid (∀ (i : Nat) (x : Ex), e.kids[i]? = some x → ∀ W, Below w.heap.size w W → ∃ b o, e.a = some ⟨b, o, none⟩ ∧ b < w.heap.size ∧ ∀ m, m < 7 → W.cell? ⟨b, o + i * 7 + m, none⟩ = x.cells[m]?) := fun i x hx W hb => by
    obtain ⟨⟨b, o, ha, hb2, hc⟩, _⟩ := hin.kid hx
    exact ⟨b, o, ha, hb2, fun m hm => (hb.cell (p := ⟨b, _, none⟩) hb2).trans (hc m hm)⟩
  clear hin hK ih hRe hF
  rw [cells_eq, hk] at HKb
  have HKE : Hid (e.k = 11) := hk
  go_enter Try.func69, Try.ntmps69
  go_wp2_with fail
  clear hk
  go_loopw [7, 41] (fun p q wr => ∃ (j : Nat) (ao : Option Addr) (co : Nat), p = .slice ao j co ∧ q = .int .i64 j ∧ j ≤ e.kids.length ∧ Hid (Is wr (w.heap.size + 1 + 1) p ((e.kids.take j).map fun x => encF (x.may R)) ∧ Kb w g e wr)) (fun _ q _ => e.kids.length - (intOf q).toNat)
  case atStart => exact ⟨0, none, 0, rfl, rfl, Nat.zero_le _, World.ownsRow_nil _ _ _ _, HKb.out⟩
  case round =>
    clear HKb
    obtain ⟨j, ao, co, rfl, rfl, hj, HQ⟩ := hrel
    by_cases hend : j = e.kids.length
    · have g1 : decide (j < e.kids.length) = false := by simp; omega
      obtain ⟨a, r, har⟩ : ∃ a r, e.kids.map (Ex.may R) = a :: r := by
        cases hm : e.kids.map (Ex.may R) with
        | nil => have := congrArg List.length hm; simp at this; rw [this] at hpos; simp at hpos
        | cons a r => exact ⟨a, r, rfl⟩
      have hF := HF.out
      rw [har] at hF
      have hIs : Is wr (w.heap.size + 1 + 1) (.slice ao j co) ((a :: r).map encF) := by
        have h1 := HQ.out.1
        rw [hend, List.take_length] at h1
        rw [hend, ← har, List.map_map]
        exact h1
      have hjl : j = r.length + 1 := by have := congrArg List.length har; simp at this; omega
      have hlm : ((a :: r).map encF).length = j := by rw [hjl]; simp
      obtain ⟨gs, cps, hve, hN1, hN2, cx0⟩ := Is.at hIs (i := 0) (x := encF a) rfl
      rw [hlm] at hve
      have hcp : j ≤ cps := by
        rcases hIs.2 with ⟨h5, h6⟩ | ⟨g5, cap5, cur5, h5, h6, h7, h8⟩
        · rw [h5] at hve; cases hve
        · rw [h5] at hve; cases hve; simp at h8; omega
      have hFI : FI wr gs 0 (a :: r) := fun i f hf => by
        obtain ⟨gs', cps', hve', _, _, cx⟩ := Is.at hIs (i := i) (x := encF f) (by rw [List.getElem?_map, hf]; rfl)
        rw [hlm, hve] at hve'; cases hve'
        rw [Nat.zero_add]; exact cx
      cases hve
      have hbw : Hid (Below w.heap.size w wr ∧ Kb w g e wr) := ⟨HQ.out.2.bel, HQ.out.2⟩
      have ce0 : wr.cell? ⟨w.heap.size + 1, 0, none⟩ = some (.int .i64 11) := by rw [← HKE.out]; exact HQ.out.2.be.cell 0
      have hrl : r.length ≤ 100 := by omega
      have j0 : (0 : Int) < (j : Int) := by omega
      clear HI HC HF hend HQ hIs har HKE hpos hN1 hN2 hlm
      clear hFI hjl
      have hz : bits .or .i64 (bits .and .i64 (encF a / 4) 1) (if sucF a then 4 else 0) = encF F := by rw [← hF]; obtain ⟨a1, a2, a3⟩ := a; cases a1 <;> cases a2 <;> cases a3 <;> rfl
      have hs : decide (0 < bits .and .i64 (encF a) 3) = sucF a := by obtain ⟨a1, a2, a3⟩ := a; cases a1 <;> cases a2 <;> cases a3 <;> rfl
      cases hsu : sucF a
      all_goals
        rw [hsu] at hz hs
        simp only [if_true, Bool.false_eq_true, if_false] at hz
        clear hsu hF
        go_wp2_with fail
        go_ret
        exact ⟨by rw [← hz]; rfl, hbw.out.1⟩
    · have hlt : j < e.kids.length := by omega
      obtain ⟨x, hx⟩ : ∃ x, e.kids[j]? = some x := ⟨_, List.getElem?_eq_getElem hlt⟩
      obtain ⟨b, o, ha, hb, hc⟩ := HC.out j x hx wr HQ.out.2.bel
      have c0 := hc 0 (by omega)
      have c1 := hc 1 (by omega)
      have c2 := hc 2 (by omega)
      have c3 := hc 3 (by omega)
      have c4 := hc 4 (by omega)
      have c5 := hc 5 (by omega)
      have c6 := hc 6 (by omega)
      rw [cells_eq] at c0 c1 c2 c3 c4 c5 c6
      simp only [List.getElem?_toArray, List.getElem?_cons_zero, List.getElem?_cons_succ, Nat.add_zero] at c0 c1 c2 c3 c4 c5 c6
      have cG : wr.cell? ⟨w.heap.size, 0, none⟩ = some (.slice g.a g.rules.length g.c) := HQ.out.2.bg.cell 0
      rw [ha]
      have hA := (Below.refl _ wr).alloc (Nat.le_refl _) (.cells x.cells 57)
      have hix := HI.out x (List.mem_of_getElem? hx) _ (HQ.out.2.bel.alloc (HQ.out.2.bel.size) (.cells x.cells 57))
      have hsz : w.heap.size + 1 + 1 ≤ wr.heap.size := HQ.out.2.be.lt
      have HS : Hid (∀ W', Below (wr.alloc (.cells x.cells 57)).heap.size (wr.alloc (.cells x.cells 57)) W' → Is W' (w.heap.size + 1 + 1) (.slice ao j co) ((e.kids.take j).map fun x => encF (x.may R)) ∧ Kb w g e W' ∧ wr.heap.size ≤ W'.heap.size) := fun W' hb => ⟨(HQ.out.1.below hA).below hb, (HQ.out.2.step hA).step hb, by have := hb.size; simp at this; omega⟩
      have HT : Hid ((e.kids.take (j + 1)).map (fun x => encF (x.may R)) = (e.kids.take j).map (fun x => encF (x.may R)) ++ [encF (x.may R)]) := by
        unfold Hid; rw [List.take_add_one, hx, Option.toList_some, List.map_append]; rfl
      have hlj : ((e.kids.take j).map fun x => encF (x.may R)).length = j := by simp; omega
      rw [val_eq] at hix
      have cG2 := (HQ.out.2.step hA).bg.cell 0
      simp only [List.getElem?_toArray, List.getElem?_cons_zero] at cG2
      rw [cells_eq] at hix HS cG2
      generalize ((e.kids.take j).map fun x => encF (x.may R)) = rs at *
      generalize encF (x.may R) = q at *
      clear hc hend HI HC HQ hx hA HF HKE hb
      go_wp2_with (first
        | (go_at_call 69; refine hix.mono ?_; rintro e5 W2 ⟨rfl, hb2⟩; have hS2 : Hid _ := HS.out W2 hb2; clear hb2 hix HS c0 c1 c2 c3 c4 c5 c6 cG cG2)
        | (at_builtin; refine wpList_append_own _ rfl _ _ 86 rfl (w.heap.size + 1 + 1) 3 i0 _ 1 8 Try.underlying86 hi hz0 hz1 hz2 rfl (by decide) _ rs.length (ics rs) ?c0 (World.ownsRow.alloc hS2.out.1 _) ⟨W2.heap.size, 0, none⟩ 1 1 [.int .i64 q] rfl rfl ?c1 ?c2 ?c3 ?c4 ?c5 ?_))
      case c0 => rfl
      case c1 => intro i u hu; match i, hu with | 0, hu => (simp at hu; subst hu; simp [Addr.add])
      case c2 => intro u hu; simp at hu; subst hu; rfl
      case c3 => unfold maxLen; omega
      case c4 => omega
      case c5 => have := hS2.out.2.2; simp; omega
      intro v8 w8 hown8 hgrow8 _
      obtain ⟨g8, cap8, rfl, -, -⟩ := World.ownsRow.form hown8 (by omega)
      have hK8 : Kb w g e w8 := by
        have k := hS2.out.2.1
        have hs3 := hS2.out.2.2
        have hne : ∀ B, B < w.heap.size + 1 + 1 → some B ≠ (Value.slice ao j co).ownBlock := fun B hB e5 => by
          have := (World.ownsRow.lt hS2.out.1 B e5.symm).1
          omega
        exact ⟨(k.bel.alloc k.bel.size _).grown hgrow8 (by simp; omega) (fun q hq => by have := (World.ownsRow.lt hS2.out.1 q hq).1; omega), (k.bg.alloc _).kept hgrow8 (hne _ (by omega)), (k.be.alloc _).kept hgrow8 (hne _ (by omega))⟩
      have hN8 : Hid (Is w8 (w.heap.size + 1 + 1) (.slice (some ⟨g8, 0, none⟩) (j + 1) cap8) ((e.kids.take (j + 1)).map fun x => encF (x.may R)) ∧ Kb w g e w8) := by
        refine ⟨?_, hK8⟩
        unfold Is
        rw [HT.out, List.length_append, hlj]
        simpa [ics] using hown8
      clear hown8 hgrow8 hK8 hS2
      go_wp2_with fail
      exact ⟨⟨j + 1, some ⟨g8, 0, none⟩, cap8, rfl, by go_num, by omega, hN8⟩, by simp [intOf]; omega⟩
end Go.Proofs.Ytokdaapmejccbaa
namespace Go.Proofs.Ytokdaapmejccbaa
open Go.RowKit
set_option linter.unusedVariables false
set_option linter.unusedSimpArgs false
theorem ry_does (g : Gr) (l : List Fa) (K c m : Nat) (hl : g.rules.length ≤ 10) : ∀ (N : Nat) (e : Ex), e.size ≤ N → e.Ok (IsRule g) → RyC g l K c m e
  | 0, e, hN, _ => by have := size_eq e; omega
  | N + 1, e, hN, ho => by
    have ho' := (ok_eq _ e).1 ho
    have ih : ∀ x ∈ e.kids, RyC g l K c m x := fun x hx => ry_does g l K c m hl N x (by have := size_kid hx; omega) (ho.kid hx)
    rcases kind_of ho'.1 with h | h | h | h | ⟨h, h1, h8⟩
    · exact ry_1 g l K c m e h
    · exact ry_2 g l K c m e h
    · exact ry_3 g l K c m e h
    · exact ry_4 g l K c m e h (ho'.2.1 h) hl
    · have : e.k = 5 ∨ e.k = 6 ∨ e.k = 7 ∨ e.k = 8 ∨ e.k = 9 ∨ e.k = 10 ∨ e.k = 11 := by omega
      rcases this with h | h | h | h | h | h | h
      · exact ry_5 g l K c m e h h8 h1 ih
      · exact ry_6 g l K c m e h h8 h1 ih
      · exact ry_7 g l K c m e h h8 h1 ih
      · exact ry_8 g l K c m e h h8 h1 ih
      · exact ry_9 g l K c m e h h8 h1 ih
      · exact ry_10 g l K c m e h h8 h1 ih
      · exact ry_11 g l K c m e h h8 h1 ih
theorem ry_any (g : Gr) (l : List Fa) (K c m : Nat) (hl : g.rules.length ≤ 10) (e : Ex) (ho : e.Ok (IsRule g)) : RyC g l K c m e := ry_does g l K c m hl e.size e (Nat.le_refl _) ho
end Go.Proofs.Ytokdaapmejccbaa
