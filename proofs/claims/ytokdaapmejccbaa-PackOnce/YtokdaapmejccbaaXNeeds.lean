import Derived.Test.YtokdaapmejccbaaXRy
import Derived.Test.YtokdaapmejccbaaXLoops
import Derived.Laws.AppendOwnNone
import Derived.WalkKit
import Derived.Below
namespace Go.Proofs.Ytokdaapmejccbaa
open Go.RowKit
open Ex.nd (ndL)
set_option linter.unusedVariables false
set_option linter.unusedSimpArgs false
theorem Is.len {w : World} {base : Nat} {v : Value} {l : List Int} (h : Is w base v l) : ∃ a c, v = .slice a l.length c := h.form
/-- One row of numbers behind another. -/
theorem wpList_append_is {ops : Array Oper} {rest : List Oper} {o : Oper} {a : Act} {Q : Exit → Act → World → Prop} (hgd : o.guard = none) (s x : Operand)
    (ho : o.op = .call { callee := .builtin .append, args := #[s, x], argTypes := #[86, 86] }) (w : World) (base b2 : Nat) (v v2 : Value) (l xs : List Int) (hs : a.eval s = v) (hx : a.eval x = v2)
    (h1 : Is w base v l) (h2 : Is w b2 v2 xs) (hl : l.length + xs.length ≤ 1000) (hbase : base ≤ w.heap.size)
    (h : ∀ v' w', Is w' base v' (l ++ xs) → w.grownBy w' v.ownBlock → wpList Try.prog ops Q rest (a.put o.dst v') w') : wpList Try.prog ops Q (o :: rest) a w := by
  obtain ⟨i0, hi, hz⟩ : ∃ i0, Try.prog.info? 3 = some i0 ∧ (i0.zero, i0.size, i0.bytes) = (some (.int .i64 0), 1, 8) := by
    simpa [Option.map_eq_some_iff] using Try.info3
  simp only [Prod.mk.injEq] at hz
  obtain ⟨hz0, hz1, hz2⟩ := hz
  have h2' := h2
  rcases h2.2 with ⟨hv, h0⟩ | ⟨g, cap, cur, hv, hg, hh, hnc, hcm, hsz, ht⟩
  · have hxs : xs = [] := List.eq_nil_of_length_eq_zero h0
    subst hxs
    refine wpList_append_own_none hgd s x 86 ho base 3 i0 1 Try.underlying86 hi v l.length (ics l) hs h1 (hx.trans hv) ?_
    have := h v w (by rw [List.append_nil]; exact h1) ⟨rfl, rfl, rfl, Nat.le_refl _, fun _ _ _ => rfl⟩
    exact this
  · refine wpList_append_own w hgd s x 86 ho base 3 i0 _ 1 8 Try.underlying86 hi hz0 hz1 hz2 rfl (by decide) v l.length (ics l) hs h1 ⟨g, 0, none⟩ xs.length cap (ics xs) (hx.trans hv) (by simp [ics]) ?_ ?_ (by unfold maxLen; omega) (by omega) hbase ?_
    · intro j u hu
      have := World.ownsRow.cells h2' (g := g) (by rw [hv]; rfl) j u hu
      exact this
    · intro u hu
      simp only [ics, List.mem_map] at hu
      obtain ⟨q, _, rfl⟩ := hu
      rfl
    · intro v' w' hr hgr _
      refine h v' w' ?_ hgr
      unfold Is
      rw [List.length_append]
      have : ics (l ++ xs) = ics l ++ ics xs := by simp [ics]
      rw [this]
      exact hr
theorem nd_len (mb : Ex → Bool) (all : List (ByteArray × Ex)) : ∀ e : Ex, (e.nd mb all).length ≤ e.size
  | .mk k S t a c kids => by
    rw [Ex.nd, Ex.size]
    split
    · simp
    · have := go mb all (decide (k = 5)) kids
      omega
  where
  go (mb : Ex → Bool) (all : List (ByteArray × Ex)) (sq : Bool) : ∀ l : List Ex, (ndL mb all sq l).length ≤ Ex.size.sizeL l
    | [] => by rw [ndL, Ex.size.sizeL]; simp
    | e :: r => by
      rw [ndL, Ex.size.sizeL, List.length_append]
      have h1 := nd_len mb all e
      have h2 := go mb all sq r
      split
      · simp; omega
      · omega
theorem ndL_drop (mb : Ex → Bool) (all : List (ByteArray × Ex)) (sq : Bool) (kids : List Ex) (i : Nat) (x : Ex) (h : kids[i]? = some x) : ndL mb all sq (kids.drop i) = x.nd mb all ++ (if sq && !mb x then [] else ndL mb all sq (kids.drop (i + 1))) := by
  rw [drop_at _ _ _ h, ndL]
/-- What needs does. -/
def NdC (g : Gr) (l : List Fa) (K c m : Nat) (e : Ex) : Prop := ∀ w : World, e.In w.heap.size w → Ki m w g l K →
  Calls Try.prog 70 #[g.val, .slice (some ⟨K, 0, none⟩) g.rules.length c, e.val] w fun r W' => ∃ v, r = .returned v ∧ Is W' w.heap.size v (e.nd (mbF g l) g.rules) ∧ Below w.heap.size w W'
set_option maxRecDepth 20000 in
set_option maxHeartbeats 4000000 in
theorem nd_ref (g : Gr) (l : List Fa) (K c m : Nat) (e : Ex) (hk : e.k = 4) : NdC g l K c m e := fun w hin hK => by
  have hKb := Kb.new w g e
  have hfi := rfind_any g e.t _ ((hK.grow hKb.bel).gi.mono (hK.grow hKb.bel).hm)
  have hst : Hid (∀ W', Below ((w.alloc (.cells #[.slice g.a g.rules.length g.c] 24)).alloc (.cells e.cells 57)).heap.size ((w.alloc (.cells #[.slice g.a g.rules.length g.c] 24)).alloc (.cells e.cells 57)) W' → Below w.heap.size w W') := fun W' hb => (hKb.step hb).bel
  rw [nd_eq, if_pos hk]
  generalize fnd g.rules e.t = q at *
  rw [gval_eq] at hfi
  rw [val_eq, gval_eq, hk]
  rw [cells_eq, hk] at hfi hst
  clear hKb hK hin hk
  go_enter Try.func70, Try.ntmps70
  go_wp2_with (go_at_call 78; refine hfi.mono ?_; rintro r W1 ⟨rfl, hb⟩; have h1 : Hid _ := hst.out W1 hb)
  refine bodyPost_ret (v := .slice (some ⟨W1.heap.size, 0, none⟩) 1 1) (by simp [results, Try.results70, go_sem]) rfl ⟨_, rfl, ?_, h1.out.alloc h1.out.size _⟩
  exact ⟨rfl, Or.inr ⟨W1.heap.size, 1, #[.int .i64 q], rfl, h1.out.size, World.alloc_heap_new _ _, Nat.le_refl _, by unfold maxLen; omega, rfl, rfl⟩⟩
theorem bit1z (f : Fa) : (bits .and .i64 (encF f) 1 == 0) = !f.1 := by obtain ⟨a, b, c⟩ := f; cases a <;> cases b <;> cases c <;> rfl
set_option maxRecDepth 20000 in
set_option maxHeartbeats 8000000 in
theorem nd_kids (g : Gr) (l : List Fa) (K c m : Nat) (hl : g.rules.length ≤ 10) (e : Ex) (ho : e.Ok (IsRule g)) (h60 : e.size ≤ 60) (hk : e.k ≠ 4) (ih : ∀ x ∈ e.kids, NdC g l K c m x) : NdC g l K c m e := fun w hin hK => by
  have hlen := hin.len
  have HI : Hid (∀ x ∈ e.kids, ∀ W, Below w.heap.size w W → Calls Try.prog 70 #[.agg #[.slice g.a g.rules.length g.c], .slice (some ⟨K, 0, none⟩) g.rules.length c, x.val] W fun r W' => ∃ v, r = .returned v ∧ Is W' W.heap.size v (x.nd (mbF g l) g.rules) ∧ Below W.heap.size W W') := fun x hx W hb => by
    obtain ⟨j, hj⟩ := List.getElem?_of_mem hx
    have := ih x hx W ((hin.kid hj).2.grow hb) (hK.grow hb)
    rw [gval_eq] at this
    exact this
  have HM : Hid (∀ x ∈ e.kids, ∀ W, Below w.heap.size w W → Calls Try.prog 69 #[.agg #[.slice g.a g.rules.length g.c], .slice (some ⟨K, 0, none⟩) g.rules.length c, x.val] W fun r W' => r = .returned (.int .i64 (encF (x.may (ofL noF g.rules l)))) ∧ Below W.heap.size W W') := fun x hx W hb => by
    obtain ⟨j, hj⟩ := List.getElem?_of_mem hx
    have := ry_any g l K c m hl x (ho.kid hx) W ((hin.kid hj).2.grow hb) (hK.grow hb)
    rw [gval_eq] at this
    exact this
  have HC : Hid (∀ (i : Nat) (x : Ex), e.kids[i]? = some x → ∀ W, Below w.heap.size w W → ∃ b o, e.a = some ⟨b, o, none⟩ ∧ b < w.heap.size ∧ ∀ m, m < 7 → W.cell? ⟨b, o + i * 7 + m, none⟩ = x.cells[m]?) := fun i x hx W hb => by
    obtain ⟨⟨b, o, ha, hb2, hc⟩, _⟩ := hin.kid hx
    exact ⟨b, o, ha, hb2, fun m hm => (hb.cell (p := ⟨b, _, none⟩) hb2).trans (hc m hm)⟩
  have HKb : Hid (Kb w g e ((w.alloc (.cells #[.slice g.a g.rules.length g.c] 24)).alloc (.cells e.cells 57))) := Kb.new w g e
  obtain ⟨sq, hsq⟩ : ∃ sq, decide (e.k = 5) = sq := ⟨_, rfl⟩
  obtain ⟨R, hR⟩ : ∃ R, e.nd (mbF g l) g.rules = R := ⟨_, rfl⟩
  have HRL : Hid (R.length ≤ 60) := by rw [← hR]; exact Nat.le_trans (nd_len _ _ e) h60
  have HR0 : Hid ([] ++ ndL (mbF g l) g.rules sq (e.kids.drop 0) = R) := by rw [← hR, nd_eq, if_neg hk, hsq]; rfl
  rw [hR]
  have HMb : Hid (∀ x : Ex, mbF g l x = (x.may (ofL noF g.rules l)).1) := fun x => rfl
  generalize mbF g l = mb at *
  generalize ofL noF g.rules l = Rf at *
  have g4 : (e.k == 4) = false := by simpa using hk
  have g5 : (e.k == 5) = sq := by rw [← hsq]; by_cases h : e.k = 5 <;> simp [h]
  rw [val_eq, gval_eq]
  rw [cells_eq] at HKb
  clear hin hK ih hR ho hl hk hsq h60
  cases sq
  · go_enter Try.func70, Try.ntmps70
    go_wp2_with fail
    go_loopw [7, 21] (fun p q wr => ∃ (i : Nat) (acc : List Int), q = .int .i64 i ∧ i ≤ e.kids.length ∧ Hid (acc ++ ndL mb g.rules false (e.kids.drop i) = R) ∧ Hid (Is wr (w.heap.size + 1 + 1) p acc ∧ Kb w g e wr)) (fun _ q _ => e.kids.length - (intOf q).toNat)
    case atStart => exact ⟨0, [], rfl, Nat.zero_le _, HR0, World.ownsRow_nil _ _ _ _, by rw [← cells_eq] at HKb; exact HKb.out⟩
    case round =>
      clear HR0 HKb
      obtain ⟨i, acc, rfl, hi, HR, HQ⟩ := hrel
      obtain ⟨pa, pc, hp⟩ := HQ.out.1.form
      subst hp
      by_cases hend : i = e.kids.length
      · have g1 : decide (i < e.kids.length) = false := by simp; omega
        have HR2 : Hid (acc = R) := by have := HR.out; rw [hend, List.drop_length, ndL, List.append_nil] at this; exact this
        clear hend
        go_wp2_with fail
        have h9 : ∃ v, Ending.returned (.slice pa acc.length pc) = Ending.returned v ∧ Is wr w.heap.size v R ∧ Below w.heap.size w wr := ⟨_, rfl, by rw [← HR2.out]; exact Is.mono HQ.out.1 (by omega), HQ.out.2.bel⟩
        first
          | exact h9
          | (go_ret
             exact h9)
      · have hlt : i < e.kids.length := by omega
        obtain ⟨x, hx⟩ : ∃ x, e.kids[i]? = some x := ⟨_, List.getElem?_eq_getElem hlt⟩
        obtain ⟨b, o, ha, hb, hc⟩ := HC.out i x hx wr HQ.out.2.bel
        have c0 := hc 0 (by omega)
        have c1 := hc 1 (by omega)
        have c2 := hc 2 (by omega)
        have c3 := hc 3 (by omega)
        have c4 := hc 4 (by omega)
        have c5 := hc 5 (by omega)
        have c6 := hc 6 (by omega)
        rw [cells_eq] at c0 c1 c2 c3 c4 c5 c6
        simp only [List.getElem?_toArray, List.getElem?_cons_zero, List.getElem?_cons_succ, Nat.add_zero] at c0 c1 c2 c3 c4 c5 c6
        have hA := (Below.refl _ wr).alloc (Nat.le_refl _) (.cells x.cells 57)
        have hKA := HQ.out.2.step hA
        have cG2 := hKA.bg.cell 0
        simp only [List.getElem?_toArray, List.getElem?_cons_zero] at cG2
        have hnd := HI.out x (List.mem_of_getElem? hx) _ hKA.bel
        have hmy := HM.out x (List.mem_of_getElem? hx)
        have HD : Hid (acc ++ (x.nd mb g.rules ++ (if false && !mb x then [] else ndL mb g.rules false (e.kids.drop (i + 1)))) = R) := by rw [← ndL_drop _ _ _ _ _ _ hx]; exact HR.out
        have hz := bit1z (x.may Rf)
        rw [← HMb.out x] at hz
        have hsz : w.heap.size + 1 + 1 ≤ wr.heap.size := HQ.out.2.be.lt
        have HS : Hid (∀ W', Below (wr.alloc (.cells x.cells 57)).heap.size (wr.alloc (.cells x.cells 57)) W' → Is W' (w.heap.size + 1 + 1) (.slice pa acc.length pc) acc ∧ Kb w g e W' ∧ BoxN W' wr.heap.size 57 x.cells ∧ wr.heap.size ≤ W'.heap.size) := fun W' hb => ⟨(HQ.out.1.below hA).below hb, hKA.step hb, (BoxN.new wr 57 _).below hb (by simp), by have := hb.size; simp at this; omega⟩
        have HPB : Hid (∀ q, (Value.slice pa acc.length pc).ownBlock = some q → w.heap.size + 1 + 1 ≤ q ∧ q < wr.heap.size) := fun q hq => World.ownsRow.lt HQ.out.1 q hq
        have hlx : acc.length + (x.nd mb g.rules).length ≤ 60 := by
          have h1 := congrArg List.length HD.out
          have h2 := HRL.out
          simp only [List.length_append] at h1
          omega
        rw [val_eq] at hnd hmy
        rw [cells_eq] at hnd HS cG2
        rw [ha]
        generalize x.nd mb g.rules = xs at *
        generalize encF (x.may Rf) = ef at *
        generalize mb x = v1 at *
        clear hc hend HR HI HM HC HQ hx hb hA hKA HMb ha
        have HX3 : Hid (∀ W2 W3, (Is W2 (w.heap.size + 1 + 1) (.slice pa acc.length pc) acc ∧ Kb w g e W2 ∧ BoxN W2 wr.heap.size 57 x.cells ∧ wr.heap.size ≤ W2.heap.size) → W2.grownBy W3 (Value.slice pa acc.length pc).ownBlock → Kb w g e W3 ∧ BoxN W3 wr.heap.size 57 x.cells) := fun W2 W3 h hg => by
          have hne : ∀ B, B < w.heap.size + 1 + 1 → some B ≠ (Value.slice pa acc.length pc).ownBlock := fun B hB e5 => by have := (HPB.out B e5.symm).1; omega
          exact ⟨⟨h.2.1.bel.grown hg h.2.1.bel.size (fun q hq => by have := (HPB.out q hq).1; omega), h.2.1.bg.kept hg (hne _ (by omega)), h.2.1.be.kept hg (hne _ (by omega))⟩, h.2.2.1.kept hg (fun e5 => by have := (HPB.out _ e5.symm).2; omega)⟩
        have HCS : Hid (∀ W, BoxN W wr.heap.size 57 x.cells → W.cell? ⟨wr.heap.size, 0, none⟩ = some (.int .i64 x.k) ∧ W.cell? ⟨wr.heap.size, 1, none⟩ = some (.int .u64 (wd x.S 0)) ∧ W.cell? ⟨wr.heap.size, 2, none⟩ = some (.int .u64 (wd x.S 1)) ∧ W.cell? ⟨wr.heap.size, 3, none⟩ = some (.int .u64 (wd x.S 2)) ∧ W.cell? ⟨wr.heap.size, 4, none⟩ = some (.int .u64 (wd x.S 3)) ∧ W.cell? ⟨wr.heap.size, 5, none⟩ = some (.string x.t) ∧ W.cell? ⟨wr.heap.size, 6, none⟩ = some (.slice x.a x.kids.length x.c)) := fun W h => ⟨h.cell 0, h.cell 1, h.cell 2, h.cell 3, h.cell 4, h.cell 5, h.cell 6⟩
        cases v1
        all_goals
          go_wp2_with (first
            | (go_at_call 70; refine hnd.mono ?_; rintro e5 W2 ⟨v2, rfl, hI2, hb2⟩; have hS2 : Hid _ := HS.out W2 hb2; have hI2' : Hid _ := hI2; clear hb2 HS hnd c0 c1 c2 c3 c4 c5 c6 cG2 hI2)
            | (at_builtin; refine wpList_append_is rfl _ _ rfl W2 (w.heap.size + 1 + 1) _ (.slice pa acc.length pc) v2 acc xs rfl rfl hS2.out.1 hI2'.out (by omega) (by have := hS2.out.2.2.2; omega) ?_; intro v3 W3 hI3 hg3
               have hK3 := HX3.out W2 W3 hS2.out hg3
               have ce : W3.cell? ⟨w.heap.size + 1, 0, none⟩ = some (.int .i64 e.k) := hK3.1.be.cell 0
               have cG3 : W3.cell? ⟨w.heap.size, 0, none⟩ = some (.slice g.a g.rules.length g.c) := hK3.1.bg.cell 0
               obtain ⟨q0, q1, q2, q3, q4, q5, q6⟩ := HCS.out W3 hK3.2
               have HK3 : Hid (Is W3 (w.heap.size + 1 + 1) v3 (acc ++ xs) ∧ Kb w g e W3) := ⟨hI3, hK3.1⟩
               have hB3 := hK3.1.bel
               clear hK3 hI3 hg3 hS2 hI2' HX3 HCS)
            | (go_at_call 69; refine (hmy W3 hB3).mono ?_; rintro e6 W4 ⟨rfl, hb4⟩; have HK4 : Hid (Is W4 (w.heap.size + 1 + 1) v3 (acc ++ xs) ∧ Kb w g e W4) := ⟨HK3.out.1.below hb4, HK3.out.2.step hb4⟩; clear hb4))
          exact ⟨⟨i + 1, acc ++ xs, by go_num, by omega, by have := HD.out; unfold Hid; rw [List.append_assoc]; simpa using this, HK3⟩, by simp [intOf]; omega⟩
  · go_enter Try.func70, Try.ntmps70
    go_wp2_with fail
    go_loopw [7, 21] (fun p q wr => ∃ (i : Nat) (acc : List Int), q = .int .i64 i ∧ i ≤ e.kids.length ∧ Hid (acc ++ ndL mb g.rules true (e.kids.drop i) = R) ∧ Hid (Is wr (w.heap.size + 1 + 1) p acc ∧ Kb w g e wr)) (fun _ q _ => e.kids.length - (intOf q).toNat)
    case atStart => exact ⟨0, [], rfl, Nat.zero_le _, HR0, World.ownsRow_nil _ _ _ _, by rw [← cells_eq] at HKb; exact HKb.out⟩
    case round =>
      clear HR0 HKb
      obtain ⟨i, acc, rfl, hi, HR, HQ⟩ := hrel
      obtain ⟨pa, pc, hp⟩ := HQ.out.1.form
      subst hp
      by_cases hend : i = e.kids.length
      · have g1 : decide (i < e.kids.length) = false := by simp; omega
        have HR2 : Hid (acc = R) := by have := HR.out; rw [hend, List.drop_length, ndL, List.append_nil] at this; exact this
        clear hend
        go_wp2_with fail
        have h9 : ∃ v, Ending.returned (.slice pa acc.length pc) = Ending.returned v ∧ Is wr w.heap.size v R ∧ Below w.heap.size w wr := ⟨_, rfl, by rw [← HR2.out]; exact Is.mono HQ.out.1 (by omega), HQ.out.2.bel⟩
        first
          | exact h9
          | (go_ret
             exact h9)
      · have hlt : i < e.kids.length := by omega
        obtain ⟨x, hx⟩ : ∃ x, e.kids[i]? = some x := ⟨_, List.getElem?_eq_getElem hlt⟩
        obtain ⟨b, o, ha, hb, hc⟩ := HC.out i x hx wr HQ.out.2.bel
        have c0 := hc 0 (by omega)
        have c1 := hc 1 (by omega)
        have c2 := hc 2 (by omega)
        have c3 := hc 3 (by omega)
        have c4 := hc 4 (by omega)
        have c5 := hc 5 (by omega)
        have c6 := hc 6 (by omega)
        rw [cells_eq] at c0 c1 c2 c3 c4 c5 c6
        simp only [List.getElem?_toArray, List.getElem?_cons_zero, List.getElem?_cons_succ, Nat.add_zero] at c0 c1 c2 c3 c4 c5 c6
        have hA := (Below.refl _ wr).alloc (Nat.le_refl _) (.cells x.cells 57)
        have hKA := HQ.out.2.step hA
        have cG2 := hKA.bg.cell 0
        simp only [List.getElem?_toArray, List.getElem?_cons_zero] at cG2
        have hnd := HI.out x (List.mem_of_getElem? hx) _ hKA.bel
        have hmy := HM.out x (List.mem_of_getElem? hx)
        have HD : Hid (acc ++ (x.nd mb g.rules ++ (if true && !mb x then [] else ndL mb g.rules true (e.kids.drop (i + 1)))) = R) := by rw [← ndL_drop _ _ _ _ _ _ hx]; exact HR.out
        have hz := bit1z (x.may Rf)
        rw [← HMb.out x] at hz
        have hsz : w.heap.size + 1 + 1 ≤ wr.heap.size := HQ.out.2.be.lt
        have HS : Hid (∀ W', Below (wr.alloc (.cells x.cells 57)).heap.size (wr.alloc (.cells x.cells 57)) W' → Is W' (w.heap.size + 1 + 1) (.slice pa acc.length pc) acc ∧ Kb w g e W' ∧ BoxN W' wr.heap.size 57 x.cells ∧ wr.heap.size ≤ W'.heap.size) := fun W' hb => ⟨(HQ.out.1.below hA).below hb, hKA.step hb, (BoxN.new wr 57 _).below hb (by simp), by have := hb.size; simp at this; omega⟩
        have HPB : Hid (∀ q, (Value.slice pa acc.length pc).ownBlock = some q → w.heap.size + 1 + 1 ≤ q ∧ q < wr.heap.size) := fun q hq => World.ownsRow.lt HQ.out.1 q hq
        have hlx : acc.length + (x.nd mb g.rules).length ≤ 60 := by
          have h1 := congrArg List.length HD.out
          have h2 := HRL.out
          simp only [List.length_append] at h1
          omega
        rw [val_eq] at hnd hmy
        rw [cells_eq] at hnd HS cG2
        rw [ha]
        generalize x.nd mb g.rules = xs at *
        generalize encF (x.may Rf) = ef at *
        generalize mb x = v1 at *
        clear hc hend HR HI HM HC HQ hx hb hA hKA HMb ha
        have HX3 : Hid (∀ W2 W3, (Is W2 (w.heap.size + 1 + 1) (.slice pa acc.length pc) acc ∧ Kb w g e W2 ∧ BoxN W2 wr.heap.size 57 x.cells ∧ wr.heap.size ≤ W2.heap.size) → W2.grownBy W3 (Value.slice pa acc.length pc).ownBlock → Kb w g e W3 ∧ BoxN W3 wr.heap.size 57 x.cells) := fun W2 W3 h hg => by
          have hne : ∀ B, B < w.heap.size + 1 + 1 → some B ≠ (Value.slice pa acc.length pc).ownBlock := fun B hB e5 => by have := (HPB.out B e5.symm).1; omega
          exact ⟨⟨h.2.1.bel.grown hg h.2.1.bel.size (fun q hq => by have := (HPB.out q hq).1; omega), h.2.1.bg.kept hg (hne _ (by omega)), h.2.1.be.kept hg (hne _ (by omega))⟩, h.2.2.1.kept hg (fun e5 => by have := (HPB.out _ e5.symm).2; omega)⟩
        have HCS : Hid (∀ W, BoxN W wr.heap.size 57 x.cells → W.cell? ⟨wr.heap.size, 0, none⟩ = some (.int .i64 x.k) ∧ W.cell? ⟨wr.heap.size, 1, none⟩ = some (.int .u64 (wd x.S 0)) ∧ W.cell? ⟨wr.heap.size, 2, none⟩ = some (.int .u64 (wd x.S 1)) ∧ W.cell? ⟨wr.heap.size, 3, none⟩ = some (.int .u64 (wd x.S 2)) ∧ W.cell? ⟨wr.heap.size, 4, none⟩ = some (.int .u64 (wd x.S 3)) ∧ W.cell? ⟨wr.heap.size, 5, none⟩ = some (.string x.t) ∧ W.cell? ⟨wr.heap.size, 6, none⟩ = some (.slice x.a x.kids.length x.c)) := fun W h => ⟨h.cell 0, h.cell 1, h.cell 2, h.cell 3, h.cell 4, h.cell 5, h.cell 6⟩
        cases v1
        all_goals
          go_wp2_with (first
            | (go_at_call 70; refine hnd.mono ?_; rintro e5 W2 ⟨v2, rfl, hI2, hb2⟩; have hS2 : Hid _ := HS.out W2 hb2; have hI2' : Hid _ := hI2; clear hb2 HS hnd c0 c1 c2 c3 c4 c5 c6 cG2 hI2)
            | (at_builtin; refine wpList_append_is rfl _ _ rfl W2 (w.heap.size + 1 + 1) _ (.slice pa acc.length pc) v2 acc xs rfl rfl hS2.out.1 hI2'.out (by omega) (by have := hS2.out.2.2.2; omega) ?_; intro v3 W3 hI3 hg3
               have hK3 := HX3.out W2 W3 hS2.out hg3
               have ce : W3.cell? ⟨w.heap.size + 1, 0, none⟩ = some (.int .i64 e.k) := hK3.1.be.cell 0
               have cG3 : W3.cell? ⟨w.heap.size, 0, none⟩ = some (.slice g.a g.rules.length g.c) := hK3.1.bg.cell 0
               obtain ⟨q0, q1, q2, q3, q4, q5, q6⟩ := HCS.out W3 hK3.2
               have HK3 : Hid (Is W3 (w.heap.size + 1 + 1) v3 (acc ++ xs) ∧ Kb w g e W3) := ⟨hI3, hK3.1⟩
               have hB3 := hK3.1.bel
               clear hK3 hI3 hg3 hS2 hI2' HX3 HCS)
            | (go_at_call 69; refine (hmy W3 hB3).mono ?_; rintro e6 W4 ⟨rfl, hb4⟩; have HK4 : Hid (Is W4 (w.heap.size + 1 + 1) v3 (acc ++ xs) ∧ Kb w g e W4) := ⟨HK3.out.1.below hb4, HK3.out.2.step hb4⟩; clear hb4))
        · have HR2 : Hid (acc ++ xs = R) := by have := HD.out; unfold Hid; simpa using this
          have h9 : ∃ v, Ending.returned v3 = Ending.returned v ∧ Is W4 w.heap.size v R ∧ Below w.heap.size w W4 := ⟨_, rfl, by rw [← HR2.out]; exact Is.mono HK4.out.1 (by omega), HK4.out.2.bel⟩
          first
            | exact h9
            | (go_ret
               exact h9)
        · exact ⟨⟨i + 1, acc ++ xs, by go_num, by omega, by have := HD.out; unfold Hid; rw [List.append_assoc]; simpa using this, HK4⟩, by simp [intOf]; omega⟩
theorem nd_does (g : Gr) (l : List Fa) (K c m : Nat) (hl : g.rules.length ≤ 10) : ∀ (N : Nat) (e : Ex), e.size ≤ N → e.size ≤ 60 → e.Ok (IsRule g) → NdC g l K c m e
  | 0, e, hN, _, _ => by have := size_eq e; omega
  | N + 1, e, hN, h60, ho => by
    by_cases hk : e.k = 4
    · exact nd_ref g l K c m e hk
    · exact nd_kids g l K c m hl e ho h60 hk fun x hx => nd_does g l K c m hl N x (by have := size_kid hx; omega) (by have := size_kid hx; omega) (ho.kid hx)
theorem nd_any (g : Gr) (l : List Fa) (K c m : Nat) (hl : g.rules.length ≤ 10) (e : Ex) (h60 : e.size ≤ 60) (ho : e.Ok (IsRule g)) : NdC g l K c m e := nd_does g l K c m hl e.size e (Nat.le_refl _) h60 ho
end Go.Proofs.Ytokdaapmejccbaa
