import Derived.Test.YtokdaapmejccbaaXMays
import Derived.Test.YtokdaapmejccbaaXRGram
import Derived.Test.YtokdaapmejccbaaXNeeds
import Derived.Test.YtokdaapmejccbaaXWell
import Derived.WalkKit
import Derived.Below
import Derived.Deep.QuietTactic
import Derived.BigQuiet
import Derived.BigRegion
namespace Go.Proofs.Ytokdaapmejccbaa
open Go.RowKit
open Ex.lp (lpL)
open Ex.nodes (nodesL)
set_option linter.unusedVariables false
set_option linter.unusedSimpArgs false
/-- Again and again, as the reference looks for it. -/
def rep1 (mb : Ex → Bool) (y : Int × Ex) : Bool := (decide (y.2.k = 7) || decide (y.2.k = 8)) && y.2.kids.any mb
theorem lp_nodes (mb : Ex → Bool) : ∀ (e : Ex) (d : Int), e.lp mb = (e.nodes d).any (rep1 mb)
  | .mk k S t a c kids, d => by
    rw [Ex.lp, nodes_eq, List.any_cons, go mb (decide (k = 7) || decide (k = 8)) kids (wrap64 (d + 1))]
    rfl
  where
  go (mb : Ex → Bool) (rep : Bool) : ∀ (l : List Ex) (d : Int), lpL mb rep l = ((rep && l.any mb) || (nodesL d l).any (rep1 mb))
    | [], d => by rw [lpL, nodesL]; cases rep <;> rfl
    | e :: r, d => by
      rw [lpL, nodesL, List.any_cons, List.any_append, go mb rep r d, ← lp_nodes mb e d]
      cases rep <;> cases mb e <;> cases e.lp mb <;> cases r.any mb <;> cases (nodesL d r).any (rep1 mb) <;> rfl
theorem ok_node {P : ByteArray → Prop} : ∀ (e : Ex) (d : Int), e.Ok P → ∀ y ∈ e.nodes d, y.2.Ok P
  | .mk k S t a c kids, d, h, y, hy => by
    rw [nodes_eq] at hy
    rcases List.mem_cons.1 hy with rfl | hy
    · exact h
    · exact go kids (wrap64 (d + 1)) (fun x hx => h.kid hx) y hy
  where
  go {P : ByteArray → Prop} : ∀ (l : List Ex) (d : Int), (∀ x ∈ l, x.Ok P) → ∀ y ∈ nodesL d l, y.2.Ok P
    | [], _, _, _, hy => by rw [nodesL] at hy; cases hy
    | e :: r, d, h, y, hy => by
      rw [nodesL] at hy
      rcases List.mem_append.1 hy with hy | hy
      · exact ok_node e d (h e (List.mem_cons_self ..)) y hy
      · exact go r d (fun x hx => h x (List.mem_cons_of_mem _ hx)) y hy
/-- One node, as it is looked at. -/
structure Mn (w : World) (g : Gr) (B NB : Nat) (l : List Fa) (y : Int × Ex) (W : World) : Prop where
  m : Ms w g B l W
  b : BoxN W NB 80 (ncell y).toArray
theorem Mn.step {w : World} {g : Gr} {B NB : Nat} {l : List Fa} {y : Int × Ex} {W W' : World} (h : Mn w g B NB l y W) (hb : Below W.heap.size W W') : Mn w g B NB l y W' := ⟨h.m.step hb, h.b.below hb h.b.lt⟩
structure Mq (w : World) (g : Gr) (B NB : Nat) (l : List Fa) (y : Int × Ex) (w1 W : World) : Prop extends Mn w g B NB l y W where
  up : Below w1.heap.size w1 W
theorem Mq.step {w : World} {g : Gr} {B NB : Nat} {l : List Fa} {y : Int × Ex} {w1 W W' : World} (h : Mq w g B NB l y w1 W) (hb : Below W.heap.size W W') : Mq w g B NB l y w1 W' := ⟨h.toMn.step hb, h.up.trans (hb.mono h.up.size)⟩
theorem bit1w (f : Fa) : decide (0 < bits .and .i64 (encF f) 1) = f.1 := by obtain ⟨a, b, c⟩ := f; cases a <;> cases b <;> cases c <;> rfl
/-- Which rules are in a row of numbers. -/
def bvw (ws : List Int) (n : Nat) : List Bool := (List.range n).map fun (i : Nat) => ws.contains (i : Int)
theorem bvw_nil (n : Nat) : bvw [] n = List.replicate n false := by
  unfold bvw
  apply List.ext_getElem (by simp)
  intro i h1 h2
  simp
theorem bvw_at (ws : List Int) (n i : Nat) (h : i < n) : (bvw ws n)[i]? = some (ws.contains (i : Int)) := by simp [bvw, h]
theorem bvw_len (ws : List Int) (n : Nat) : (bvw ws n).length = n := by simp [bvw]
theorem bvw_add (ws : List Int) (n i : Nat) (h : i < n) : bvw (ws ++ [(i : Int)]) n = (bvw ws n).set i true := by
  apply List.ext_getElem? 
  intro j
  by_cases hj : j < n
  · rw [bvw_at _ _ _ hj]
    by_cases e : i = j
    · subst e
      rw [List.getElem?_set_self (by rw [bvw_len]; exact h)]
      simp
    · rw [List.getElem?_set_ne e, bvw_at _ _ _ hj]
      have : ¬ ((j : Int) = (i : Int)) := by omega
      simp [this]
  · rw [List.getElem?_eq_none (by rw [bvw_len]; omega), List.getElem?_eq_none (by rw [List.length_set, bvw_len]; omega)]
theorem nd_in (mb : Ex → Bool) (g : Gr) : ∀ e : Ex, e.Ok (IsRule g) → ∀ z ∈ e.nd mb g.rules, ∃ k : Nat, z = (k : Int) ∧ k < g.rules.length
  | .mk k S t a c kids, h, z, hz => by
    rw [Ex.nd] at hz
    split at hz
    · rename_i h4
      have h5 := List.mem_singleton.1 hz
      obtain ⟨j, hj, hl⟩ := ((ok_eq _ _).1 h).2.1 h4
      exact ⟨j, h5.trans hj, hl⟩
    · exact go kids (fun x hx => h.kid hx) _ z hz
  where
  go {mb : Ex → Bool} {g : Gr} : ∀ (l : List Ex), (∀ x ∈ l, x.Ok (IsRule g)) → ∀ (sq : Bool) (z : Int), z ∈ Ex.nd.ndL mb g.rules sq l → ∃ k : Nat, z = (k : Int) ∧ k < g.rules.length
    | [], _, _, z, hz => by rw [Ex.nd.ndL] at hz; cases hz
    | e :: r, h, sq, z, hz => by
      rw [Ex.nd.ndL] at hz
      rcases List.mem_append.1 hz with hz | hz
      · exact nd_in mb g e (h e (List.mem_cons_self ..)) z hz
      · split at hz
        · cases hz
        · exact go r (fun x hx => h x (List.mem_cons_of_mem _ hx)) sq z hz
theorem all_eq {p q : Int → Bool} : ∀ (l : List Int), (∀ z ∈ l, p z = q z) → l.all p = l.all q
  | [], _ => rfl
  | x :: l, h => by rw [List.all_cons, List.all_cons, h x (List.mem_cons_self ..), all_eq l fun z hz => h z (List.mem_cons_of_mem _ hz)]
theorem wst_nd (g : Gr) (mb : Ex → Bool) (ws : List Int) (i : Nat) (r : ByteArray × Ex) (hr : g.rules[i]? = some r) (ho : r.2.Ok (IsRule g)) : wst g.rules mb (bvw ws g.rules.length) i = (r.2.nd mb g.rules).all (fun s => ws.contains s) := by
  rw [wst_at hr]
  have h1 := iw_nd mb g.rules (fun z => (bvw ws g.rules.length).getD z.toNat false) r.2
  refine Eq.trans h1 (all_eq _ fun z hz => ?_)
  obtain ⟨k, rfl, hk⟩ := nd_in mb g r.2 ho z hz
  rw [Int.toNat_natCast, List.getD_eq_getElem?_getD, bvw_at _ _ _ hk]
  rfl
theorem set_at {α : Type} {l : List α} {i : Nat} {a : α} (h : l[i]? = some a) : l.set i a = l := by
  apply List.ext_getElem?
  intro j
  by_cases e : i = j
  · subst e; rw [List.getElem?_set_self (List.getElem?_eq_some_iff.1 h).1, h]
  · rw [List.getElem?_set_ne e]
theorem Ms.grown {w : World} {g : Gr} {B : Nat} {l : List Fa} {W W' : World} {ob : Option Nat} (h : Ms w g B l W) (hg : W.grownBy W' ob) (hB : ∀ q, ob = some q → B < q) : Ms w g B l W' :=
  ⟨h.bel.grown hg h.bel.size (fun q hq => by have := hB q hq; have := h.ge; omega), h.b0.kept hg (fun e => by have := hB _ e.symm; have := h.ge; omega), h.ge, h.x.kept hg (fun e => by have := hB _ e.symm; omega)⟩
/-- And it has not shrunk. -/
structure My (w : World) (g : Gr) (B N : Nat) (l : List Fa) (W : World) : Prop extends Ms w g B l W where
  sz : N ≤ W.heap.size
theorem My.step {w : World} {g : Gr} {B N : Nat} {l : List Fa} {W W' : World} (h : My w g B N l W) (hb : Below W.heap.size W W') : My w g B N l W' := ⟨h.toMs.step hb, Nat.le_trans h.sz hb.size⟩
theorem My.grown {w : World} {g : Gr} {B N : Nat} {l : List Fa} {W W' : World} {ob : Option Nat} (h : My w g B N l W) (hg : W.grownBy W' ob) (hB : ∀ q, ob = some q → B < q) (hN : ∀ q, ob = some q → N ≤ q) : My w g B N l W' :=
  ⟨h.toMs.grown hg hB, Nat.le_trans h.sz ((Below.refl N W).grown hg h.sz hN).size⟩
/-- What a rule's turn makes of the round. -/
theorem Round.rule {n i : Nat} {st : List Bool → Nat → Bool} (M : Mono bLe n st) {l0 : List Bool} {ws : List Int} (h : ∃ more, Round bLe bRk n st l0 i (bvw ws n) more) (hi : i < n) :
    (st (bvw ws n) i = false → ws.contains (i : Int) = false) ∧ ∃ more, Round bLe bRk n st l0 (i + 1) ((bvw ws n).set i (st (bvw ws n) i)) more := by
  obtain ⟨more, hR⟩ := h
  have ha := bvw_at ws n i hi
  refine ⟨fun h0 => ?_, more || (st (bvw ws n) i != ws.contains (i : Int)), hR.next bLat M ha ?_⟩
  · have := hR.so.up i _ ha
    rw [h0] at this
    cases hc : ws.contains (i : Int)
    · rfl
    · rw [hc] at this; exact absurd (this rfl) (by decide)
  · cases more <;> simp
theorem bRk_all : ∀ (l : List Bool), l.length ≤ rkL bRk l → ∀ x ∈ l, x = true
  | [], _, x, hx => by cases hx
  | b :: r, h, x, hx => by
    have h1 := rkL_most bLat r
    have h2 : rkL bRk (b :: r) = bRk b + rkL bRk r := by simp [rkL]
    rw [h2, List.length_cons] at h
    cases b with
    | false => exact absurd h (by simp [bRk]; omega)
    | true =>
      rcases List.mem_cons.1 hx with rfl | hx
      · rfl
      · exact bRk_all r (by simp [bRk] at h; omega) x hx
theorem Rnds.all {n : Nat} {st : List Bool → Nat → Bool} {l : List Bool} (h : Rnds bLe bRk n st n l) : Least bLe n st l := by
  refine ⟨?_, h.so.below⟩
  rcases h.or with k | k
  · refine ⟨h.so.len, fun i a ha => ?_⟩
    have := bRk_all l (by rw [h.so.len]; exact k) a (List.mem_of_getElem? ha)
    subst this
    intro _
    rfl
  · exact k
theorem Is.contains {w : World} {N : Nat} {v : Value} {l : List Int} (h : Is w N v l) (hl : l.length ≤ 1000) (x : Int) : Calls Try.prog 71 #[v, .int .i64 x] w fun e w' => e = .returned (.bool (l.contains x)) ∧ w' = w := by
  rcases h.2 with ⟨rfl, h0⟩ | ⟨g, cap, cur, rfl, hg, hh, hnc, hcm, hsz, ht⟩
  · have hxs : l = [] := List.eq_nil_of_length_eq_zero h0
    subst hxs
    exact Try.slices_Contains_int_empty none 0 x w
  · have := Try.slices_Contains_int g 0 l.length cap l x w (Nat.le_refl _) (by omega) (fun j hj => by
      obtain ⟨y, hy⟩ : ∃ y, l[j]? = some y := ⟨_, List.getElem?_eq_getElem hj⟩
      have h3 := World.ownsRow.cells h (g := g) rfl j (.int .i64 y) (by simp [ics, hy])
      rw [Addr.add_lit, Nat.zero_add] at h3
      rw [Nat.zero_add, h3]
      simp [List.getD, hy])
    rw [List.take_of_length_le (Nat.le_refl _)] at this
    exact this
theorem star_kid {e : Ex} (h : formOk e = true) (hk : e.k = 7 ∨ e.k = 8) : ∃ x, e.kids = [x] := by
  unfold formOk kidsOk at h
  simp only [Bool.and_eq_true] at h
  have h3 := h.2
  rw [if_neg (by omega), if_neg (by omega), if_pos (by omega)] at h3
  simp only [decide_eq_true_eq] at h3
  exact List.length_eq_one_iff.1 h3
set_option maxRecDepth 20000 in
set_option maxHeartbeats 16000000 in
theorem rwell_any (g : Gr) (h0 : gcheck g.rules = 0) (w : World) (hin : g.In w.heap.size w) :
    Calls Try.prog 42 #[g.val] w (WellR g w) := by
  obtain ⟨i0, hinf, hz⟩ : ∃ i0, Try.prog.info? 3 = some i0 ∧ (i0.zero, i0.size, i0.bytes) = (some (.int .i64 0), 1, 8) := by
    simpa [Option.map_eq_some_iff] using Try.info3
  simp only [Prod.mk.injEq] at hz
  obtain ⟨hz0, hz1, hz2⟩ := hz
  have hok := gcheck_ok h0
  have h10 := hok.most
  have HG : Hid (∀ r W', (∃ lf, Least fLe g.rules.length (mst g.rules) lf ∧ ∃ n e : Int, WellN g lf n e ∧ r = .returned (.tuple #[.int .i64 n, .int .i64 e]) ∧ Below w.heap.size w W') → WellR g w r W') := fun r W' h => ⟨h⟩
  generalize WellR g w = PP at *
  have hA := (Below.refl w.heap.size w).alloc (Nat.le_refl _) (.cells #[.slice g.a g.rules.length g.c] 24)
  have bG := BoxN.new w 24 #[.slice g.a g.rules.length g.c]
  have HN : Hid (∀ {W}, Below (w.alloc (.cells #[.slice g.a g.rules.length g.c] 24)).heap.size (w.alloc (.cells #[.slice g.a g.rules.length g.c] 24)) W → Below w.heap.size w W ∧ BoxN W w.heap.size 24 #[.slice g.a g.rules.length g.c]) := fun h => ⟨hA.trans (h.mono hA.size), bG.below h (by simp)⟩
  have h7 := rgram_any g _ (hin.grow hA)
  rw [h0] at h7
  have h8 : ∀ W, Below w.heap.size w W → _ := fun W h => mays_any g hok W (hin.grow h)
  have HI : Hid (g.In w.heap.size w) := hin
  have HO : Hid (GOk g.rules) := hok
  rw [gval_eq] at h7 h8 ⊢
  clear hA bG hin hok
  go_enter Try.func42, Try.ntmps42
  go_wp2_with (first
    | (go_at_call 67; refine h7.mono ?_; rintro e W1 ⟨rfl, hb1⟩; have k1 := HN.out hb1; have c1 := k1.2.cell 0; simp only [List.getElem?_toArray, List.getElem?_cons_zero] at c1; clear hb1 h7)
    | (go_at_call 68; refine (h8 _ k1.1).mono ?_; rintro e W3 ⟨B2, cp2, lf, rfl, hB2, hI2, hL2, hb3⟩; have c3 : W3.cell? ⟨w.heap.size, 0, none⟩ = some (.slice g.a g.rules.length g.c) := (k1.2.below hb3 k1.2.lt).cell 0
       have HL : Hid (Least fLe g.rules.length (mst g.rules) lf) := hL2
       have HM0 : Hid (Ms w g B2 lf W3) := ⟨k1.1.trans (hb3.mono k1.1.size), k1.2.below hb3 k1.2.lt, Nat.lt_of_le_of_lt k1.1.size hB2, hI2⟩
       clear hB2 hI2 hL2 hb3 h8 k1 c1))
  obtain ⟨RL, hRL⟩ : ∃ RL, fiF (fun r : ByteArray × Ex => r.2.lp (mbF g lf)) 0 g.rules = RL := ⟨_, rfl⟩
  have HRL : Hid (fiF (fun r : ByteArray × Ex => r.2.lp (mbF g lf)) 0 (g.rules.drop 0) = RL) := hRL
  have HRR : Hid (fiF (fun r : ByteArray × Ex => r.2.lp (mbF g lf)) 0 g.rules = RL) := hRL
  have HC : Hid (∀ (i : Nat) (r : ByteArray × Ex), g.rules[i]? = some r → ∀ W, Below w.heap.size w W → RuIn w.heap.size W g.a i r) := fun i r hr W hb => (HI.out.below hb).rule i r hr
  clear hRL c3 HN
  go_loopw [27] (fun p wr => ∃ i : Nat, p = .int .i64 i ∧ i ≤ g.rules.length ∧ Hid (fiF (fun r : ByteArray × Ex => r.2.lp (mbF g lf)) i (g.rules.drop i) = RL) ∧ Hid (Ms w g B2 lf wr)) (fun p _ => g.rules.length - (intOf p).toNat)
  case atStart => exact ⟨0, rfl, Nat.zero_le _, HRL, HM0⟩
  case round =>
    clear HRL HM0
    obtain ⟨i, rfl, hi, HR, HQ⟩ := hrel
    by_cases hend : i = g.rules.length
    · have g1 : decide (i < g.rules.length) = false := by simp; omega
      have hR : none = RL := by have := HR.out; rw [hend, List.drop_length, fiF] at this; exact this
      subst hR
      have cG : wr.cell? ⟨w.heap.size, 0, none⟩ = some (.slice g.a g.rules.length g.c) := HQ.out.b0.cell 0
      clear hend HR
      have hMs := HQ.out
      have HBd : Hid (B2 < wr.heap.size ∧ w.heap.size < wr.heap.size) := ⟨hMs.x.lt, hMs.b0.lt⟩
      have HR0 : Hid (Rnds bLe bRk g.rules.length (wst g.rules (mbF g lf)) 0 (bvw [] g.rules.length)) := ⟨by rw [bvw_nil]; exact bot_sofar no_le, .inl (Nat.zero_le _)⟩
      have HMo : Hid (Mono bLe g.rules.length (wst g.rules (mbF g lf))) := wst_mono g.rules (mbF g lf)
      obtain ⟨w9, hw9⟩ : ∃ w9, w9 = wr := ⟨_, rfl⟩
      have HM0 : Hid (My w g B2 w9.heap.size lf w9) := ⟨by rw [hw9]; exact hMs, Nat.le_refl _⟩
      rw [← hw9] at HBd
      clear hMs HQ
      go_wp2_with fail
      rw [← hw9]
      clear hw9 cG
      go_loopw [10, 68] (fun p q wq => ∃ (t : Nat) (ws : List Int), q = .int .i64 t ∧ t ≤ g.rules.length ∧ ws.length ≤ t * 10 ∧ Hid (Is wq w9.heap.size p ws ∧ My w g B2 w9.heap.size lf wq) ∧ Hid (Rnds bLe bRk g.rules.length (wst g.rules (mbF g lf)) t (bvw ws g.rules.length))) (fun _ q _ => g.rules.length - (intOf q).toNat)
      case atStart => exact ⟨0, [], rfl, Nat.zero_le _, by simp, ⟨World.ownsRow_nil _ _ _ _, HM0.out⟩, HR0⟩
      case round =>
        clear HR0 HM0
        obtain ⟨t, ws, rfl, ht, hwl, HQ, HR⟩ := hrel
        obtain ⟨pa, pc, hp⟩ := HQ.out.1.form
        subst hp
        by_cases hend : t = g.rules.length
        · have g1 : decide (t < g.rules.length) = false := by simp; omega
          have cG : wr.cell? ⟨w.heap.size, 0, none⟩ = some (.slice g.a g.rules.length g.c) := HQ.out.2.b0.cell 0
          have HLb : Hid (Least bLe g.rules.length (wst g.rules (mbF g lf)) (bvw ws g.rules.length)) := by have := HR.out; rw [hend] at this; exact this.all
          have hw1 : ws.length ≤ 1000 := by omega
          obtain ⟨RB, hRB⟩ : ∃ RB, fiF (fun x => x == false) 0 (bvw ws g.rules.length) = RB := ⟨_, rfl⟩
          have HRB : Hid (fiF (fun x => x == false) 0 (bvw ws g.rules.length) = RB) := hRB
          have HR3 : Hid (fiF (fun x => x == false) 0 ((bvw ws g.rules.length).drop 0) = RB) := hRB
          clear hend HR hRB
          go_wp2_with fail
          clear cG
          go_loopw [111] (fun p wq => ∃ i : Nat, p = .int .i64 i ∧ i ≤ g.rules.length ∧ Hid (fiF (fun x => x == false) i ((bvw ws g.rules.length).drop i) = RB) ∧ Hid (Is wq w9.heap.size (.slice pa ws.length pc) ws ∧ My w g B2 w9.heap.size lf wq)) (fun p _ => g.rules.length - (intOf p).toNat)
          case atStart => exact ⟨0, rfl, Nat.zero_le _, HR3, HQ.out⟩
          case round =>
            clear HR3 HQ
            obtain ⟨i, rfl, hi, HR, HQ⟩ := hrel
            by_cases hend : i = g.rules.length
            · have g1 : decide (i < g.rules.length) = false := by simp; omega
              have hR : none = RB := by have := HR.out; rw [hend, List.drop_eq_nil_of_le (by rw [bvw_len]; omega), fiF] at this; exact this
              subst hR
              have HB9 : Hid (Below w.heap.size w wr) := HQ.out.2.bel
              clear hend HR HQ
              go_wp2_with fail
              refine HG.out _ _ ⟨lf, HL.out, 0, 0, ?_, ?_, HB9.out⟩
              · unfold WellN
                rw [HRR.out]
                refine ⟨_, HLb.out, ?_⟩
                rw [HRB.out]
                exact ⟨rfl, rfl⟩
              · simp
            · have hlt : i < g.rules.length := by omega
              have HD : Hid ((if ws.contains (i : Int) == false then some i else fiF (fun x => x == false) (i + 1) ((bvw ws g.rules.length).drop (i + 1))) = RB) := by have h5 := fiF_drop (fun x => x == false) (bvw ws g.rules.length) i _ (bvw_at ws _ i hlt); rw [HR.out] at h5; exact h5.symm
              have hcon := HQ.out.1.contains hw1 (i : Int)
              generalize hcb : ws.contains (i : Int) = cb at *
              clear hend HR hcb
              cases cb
              · have hR : some i = RB := HD.out
                subst hR
                have HB9 : Hid (Below w.heap.size w wr) := HQ.out.2.bel
                go_wp2_with (go_at_call 71; refine hcon.mono ?_; rintro e5 W5 ⟨rfl, rfl⟩)
                refine HG.out _ _ ⟨lf, HL.out, (i : Int), 8, ?_, ?_, HB9.out⟩
                · unfold WellN
                  rw [HRR.out]
                  refine ⟨_, HLb.out, ?_⟩
                  rw [HRB.out]
                  exact ⟨rfl, rfl⟩
                · simp
              · have HR4 : Hid (fiF (fun x => x == false) (i + 1) ((bvw ws g.rules.length).drop (i + 1)) = RB) := HD.out
                go_wp2_with (go_at_call 71; refine hcon.mono ?_; rintro e5 W5 ⟨rfl, rfl⟩)
                exact ⟨⟨i + 1, by go_num, by omega, HR4, HQ.out⟩, by simp [intOf]; omega⟩
        · have htl : t < g.rules.length := by omega
          have cG : wr.cell? ⟨w.heap.size, 0, none⟩ = some (.slice g.a g.rules.length g.c) := HQ.out.2.b0.cell 0
          have HR5 : Hid (∃ more, Round bLe bRk g.rules.length (wst g.rules (mbF g lf)) (bvw ws g.rules.length) 0 (bvw ws g.rules.length) more) := ⟨false, Round.start HR.out.so⟩
          clear hend
          go_wp2_with fail
          clear cG
          go_loopw [10, 73] (fun p q wq => ∃ (i : Nat) (ws' : List Int), q = .int .i64 i ∧ i ≤ g.rules.length ∧ ws'.length ≤ t * 10 + i ∧ Hid (Is wq w9.heap.size p ws' ∧ My w g B2 w9.heap.size lf wq) ∧ Hid (∃ more, Round bLe bRk g.rules.length (wst g.rules (mbF g lf)) (bvw ws g.rules.length) i (bvw ws' g.rules.length) more)) (fun _ q _ => g.rules.length - (intOf q).toNat)
          case atStart => exact ⟨0, ws, rfl, Nat.zero_le _, hwl, HQ.out, HR5⟩
          case round =>
            clear HR5 HQ
            obtain ⟨i, ws', rfl, hi, hwl', HQ, HR5⟩ := hrel
            obtain ⟨pa', pc', hp⟩ := HQ.out.1.form
            subst hp
            by_cases hend : i = g.rules.length
            · have g1 : decide (i < g.rules.length) = false := by simp; omega
              have HR6 : Hid (Rnds bLe bRk g.rules.length (wst g.rules (mbF g lf)) (t + 1) (bvw ws' g.rules.length)) := by
                obtain ⟨more, h5⟩ := HR5.out
                rw [hend] at h5
                exact HR.out.next bLat h5
              clear hend HR HR5
              go_wp2_with fail
              exact ⟨⟨t + 1, ws', by go_num, by omega, by omega, HQ, HR6⟩, by simp [intOf]; omega⟩
            · have hlt : i < g.rules.length := by omega
              obtain ⟨r, hr⟩ : ∃ r, g.rules[i]? = some r := ⟨_, List.getElem?_eq_getElem hlt⟩
              have hru := HC.out i r hr wr HQ.out.2.bel
              obtain ⟨bb, o, ha, hb, c0, c1, c2, c3, c4, c5, c6, c7⟩ := rcells hru
              have hA := (Below.refl _ wr).alloc (Nat.le_refl _) (.cells (rcell r).toArray 76)
              have hM7 := HQ.out.2.step hA
              have hck := (ruleChk_zero (HO.out.rules i r hr)).2.2
              have hnd := nd_any g lf B2 cp2 _ h10 r.2 ((check_zero _).1 hck).1 (body_ok HO.out hr) _ ((hru.body.mono HQ.out.2.bel.size).grow hA) (hM7.kn HI.out HL.out.pre.len)
              have hst := wst_nd g (mbF g lf) ws' i r hr (body_ok HO.out hr)
              have hrul := Round.rule HMo.out HR5.out hlt
              have hln : (r.2.nd (mbF g lf) g.rules).length ≤ 60 := Nat.le_trans (nd_len _ _ _) ((check_zero _).1 hck).1
              rw [gval_eq, val_eq] at hnd
              rw [hst] at hrul
              have HS : Hid (∀ W', Below (wr.alloc (.cells (rcell r).toArray 76)).heap.size (wr.alloc (.cells (rcell r).toArray 76)) W' → Is W' w9.heap.size (.slice pa' ws'.length pc') ws' ∧ My w g B2 w9.heap.size lf W') := fun W' hb => ⟨(HQ.out.1.below hA).below hb, hM7.step hb⟩
              have cG2 := hM7.b0.cell 0
              rw [rcell_eq] at hnd HS cG2
              simp only [List.getElem?_toArray, List.getElem?_cons_zero] at cG2
              have hw1 : ws'.length ≤ 900 := by omega
              generalize r.2.nd (mbF g lf) g.rules = L at *
              obtain ⟨sv, hsv⟩ : ∃ sv, (L.all fun s => ws'.contains s) = sv := ⟨_, rfl⟩
              rw [hsv] at hrul
              have HV : Hid ((true && (L.drop 0).all fun s => ws'.contains s) = sv) := hsv
              have HRu : Hid _ := hrul
              rw [ha]
              rw [ha] at hnd cG2
              have HA : Hid (g.a = some ⟨bb, o, none⟩) := ha
              clear hend HR HQ HR5 hr hru hA hM7 hb hck ha hst hrul hsv
              go_wp2_with (go_at_call 70; refine hnd.mono ?_; rintro e5 W4 ⟨v4, rfl, hI4, hb4⟩; obtain ⟨pn, cn, hv4⟩ := hI4.form; subst hv4; have HW4 : Hid _ := HS.out W4 hb4; have HI4 : Hid _ := hI4; clear hb4 HS hnd hI4 c0 c1 c2 c3 c4 c5 c6 c7 cG2)
              go_loopw [13, 84] (fun p q wq => ∃ (b : Bool) (j : Nat), p = .bool b ∧ q = .int .i64 j ∧ j ≤ L.length ∧ Hid ((b && (L.drop j).all fun s => ws'.contains s) = sv) ∧ Hid (Is wq (wr.heap.size + 1) (.slice pn L.length cn) L ∧ Is wq w9.heap.size (.slice pa' ws'.length pc') ws' ∧ My w g B2 w9.heap.size lf wq)) (fun _ q _ => L.length - (intOf q).toNat)
              case atStart => exact ⟨true, 0, rfl, rfl, Nat.zero_le _, HV, by have := HI4.out; simp at this; exact this, HW4.out⟩
              case round =>
                clear HV HI4 HW4
                obtain ⟨b, j, rfl, rfl, hj, HR7, HQ7⟩ := hrel
                by_cases hend : j = L.length
                · have g1 : decide (j < L.length) = false := by simp; omega
                  have hbs : b = sv := by have := HR7.out; rw [hend, List.drop_length] at this; simpa using this
                  subst hbs
                  have hcon := HQ7.out.2.1.contains (by omega) (i : Int)
                  have hat := bvw_at ws' g.rules.length i hlt
                  have hadd := bvw_add ws' g.rules.length i hlt
                  generalize hcb : ws'.contains (i : Int) = cb at *
                  cases b
                  · have hc0 : cb = false := HRu.out.1 rfl
                    subst hc0
                    have HR8 : Hid (∃ more, Round bLe bRk g.rules.length (wst g.rules (mbF g lf)) (bvw ws g.rules.length) (i + 1) (bvw ws' g.rules.length) more) := by have := HRu.out.2; rw [set_at hat] at this; exact this
                    have HQ8 : Hid (Is wr w9.heap.size (.slice pa' ws'.length pc') ws' ∧ My w g B2 w9.heap.size lf wr) := HQ7.out.2
                    clear hend hcb hat hadd HRu HQ7 HR7 hcon
                    go_wp2_with fail
                    exact ⟨⟨i + 1, ws', by go_num, by omega, by omega, HQ8, HR8⟩, by simp [intOf]; omega⟩
                  · cases cb
                    · have HR8 : Hid (∃ more, Round bLe bRk g.rules.length (wst g.rules (mbF g lf)) (bvw ws g.rules.length) (i + 1) (bvw (ws' ++ [(i : Int)]) g.rules.length) more) := by have := HRu.out.2; rw [← hadd] at this; exact this
                      have hB9 := HBd.out
                      have HS9 : Hid (∀ q, (Value.slice pa' ws'.length pc').ownBlock = some q → B2 < q) := fun q hq => by have := (World.ownsRow.lt HQ7.out.2.1 q hq).1; omega
                      have hsz9 : w9.heap.size ≤ wr.heap.size := HQ7.out.2.2.sz
                      have HS8 : Hid (∀ q, (Value.slice pa' ws'.length pc').ownBlock = some q → w9.heap.size ≤ q) := fun q hq => (World.ownsRow.lt HQ7.out.2.1 q hq).1
                      have HMA : Hid (My w g B2 w9.heap.size lf (wr.alloc (.cells #[.int .i64 (i : Int)] 3))) := HQ7.out.2.2.step ((Below.refl _ wr).alloc (Nat.le_refl _) _)
                      clear hend hcb hat hadd HRu HR7
                      go_wp2_with (first
                        | (go_at_call 71; refine hcon.mono ?_; rintro e5 W5 ⟨rfl, rfl⟩)
                        | (at_builtin; refine wpList_append_own _ rfl _ _ 86 rfl w9.heap.size 3 i0 _ 1 8 Try.underlying86 hinf hz0 hz1 hz2 rfl (by decide) _ ws'.length (ics ws') ?c0 (World.ownsRow.alloc HQ7.out.2.1 _) ⟨W5.heap.size, 0, none⟩ 1 1 [.int .i64 (i : Int)] rfl rfl ?c1 ?c2 ?c3 ?c4 ?c5 ?_))
                      case c0 => rfl
                      case c1 => intro j u hu; match j, hu with | 0, hu => (simp at hu; subst hu; simp [Addr.add])
                      case c2 => intro u hu; simp at hu; subst hu; rfl
                      case c3 => unfold maxLen; omega
                      case c4 => omega
                      case c5 => simp; omega
                      intro v8 w8 hown8 hgrow8 _
                      obtain ⟨g8, cap8, rfl, -, -⟩ := World.ownsRow.form hown8 (by omega)
                      have hM8 := HMA.out.grown hgrow8 HS9.out HS8.out
                      have HQ8 : Hid (Is w8 w9.heap.size (.slice (some ⟨g8, 0, none⟩) (ws'.length + 1) cap8) (ws' ++ [(i : Int)]) ∧ My w g B2 w9.heap.size lf w8) := by
                        refine ⟨?_, hM8⟩
                        unfold Is
                        rw [List.length_append]
                        simpa [ics] using hown8
                      clear hown8 hgrow8 hM8 HMA HQ7
                      go_wp2_with fail
                      exact ⟨⟨i + 1, ws' ++ [(i : Int)], by go_num, by omega, by simp; omega, HQ8, HR8⟩, by simp [intOf]; omega⟩
                    · have HR8 : Hid (∃ more, Round bLe bRk g.rules.length (wst g.rules (mbF g lf)) (bvw ws g.rules.length) (i + 1) (bvw ws' g.rules.length) more) := by have := HRu.out.2; rw [set_at hat] at this; exact this
                      have HQ8 : Hid (Is wr w9.heap.size (.slice pa' ws'.length pc') ws' ∧ My w g B2 w9.heap.size lf wr) := HQ7.out.2
                      clear hend hcb hat hadd HRu HQ7 HR7
                      go_wp2_with (go_at_call 71; refine hcon.mono ?_; rintro e5 W5 ⟨rfl, rfl⟩)
                      exact ⟨⟨i + 1, ws', by go_num, by omega, by omega, HQ8, HR8⟩, by simp [intOf]; omega⟩
                · have hjl : j < L.length := by omega
                  obtain ⟨y, hy⟩ : ∃ y, L[j]? = some y := ⟨_, List.getElem?_eq_getElem hjl⟩
                  obtain ⟨gN, cN, hvN, -, -, cN0⟩ := HQ7.out.1.at hy
                  cases hvN
                  have hcon := HQ7.out.2.1.contains (by omega) y
                  have HD7 : Hid ((b && (ws'.contains y && (L.drop (j + 1)).all fun s => ws'.contains s)) = sv) := by have := HR7.out; rw [drop_at _ _ _ hy, List.all_cons] at this; exact this
                  generalize hcb : ws'.contains y = cb at *
                  clear hend HR7 hcb hy
                  cases b
                  · have HR8 : Hid ((false && (L.drop (j + 1)).all fun s => ws'.contains s) = sv) := HD7.out
                    go_wp2_with fail
                    exact ⟨⟨false, j + 1, rfl, by go_num, by omega, HR8, HQ7⟩, by simp [intOf]; omega⟩
                  · have HR8 : Hid ((cb && (L.drop (j + 1)).all fun s => ws'.contains s) = sv) := HD7.out
                    go_wp2_with (go_at_call 71; refine hcon.mono ?_; rintro e5 W5 ⟨rfl, rfl⟩)
                    exact ⟨⟨cb, j + 1, rfl, by go_num, by omega, HR8, HQ7⟩, by simp [intOf]; omega⟩
    · have hlt : i < g.rules.length := by omega
      obtain ⟨r, hr⟩ : ∃ r, g.rules[i]? = some r := ⟨_, List.getElem?_eq_getElem hlt⟩
      have hru := HC.out i r hr wr HQ.out.bel
      obtain ⟨bb, o, ha, hb, c0, c1, c2, c3, c4, c5, c6, c7⟩ := rcells hru
      have hA := (Below.refl _ wr).alloc (Nat.le_refl _) (.cells (rcell r).toArray 76)
      have hM7 := HQ.out.step hA
      have hno := rnodes_any r.2 _ ((hru.body.mono HQ.out.bel.size).grow hA)
      have hck := (ruleChk_zero (HO.out.rules i r hr)).2.2
      have HOk : Hid (∀ y ∈ rnodes r.2, y.2.Ok (IsRule g)) := fun y hy => by rw [rnodes_ok _ hck] at hy; exact ok_node r.2 1 (body_ok HO.out hr) y hy
      have HIn : Hid (∀ y ∈ rnodes r.2, ∀ W, Below w.heap.size w W → y.2.In w.heap.size W) := fun y hy W hb => (rnodes_in (HC.out i r hr W hb).body) y hy
      have HV : Hid ((rnodes r.2).any (rep1 (mbF g lf)) = r.2.lp (mbF g lf)) := by rw [rnodes_ok _ hck]; exact (lp_nodes _ _ _).symm
      have hpos := rnodes_pos r.2
      have hln := rnodes_len r.2
      have HD : Hid ((if r.2.lp (mbF g lf) then some i else fiF (fun r : ByteArray × Ex => r.2.lp (mbF g lf)) (i + 1) (g.rules.drop (i + 1))) = RL) := by have h5 := fiF_drop (fun r : ByteArray × Ex => r.2.lp (mbF g lf)) g.rules i r hr; rw [HR.out] at h5; exact h5.symm
      have HS : Hid (∀ W', Below (wr.alloc (.cells (rcell r).toArray 76)).heap.size (wr.alloc (.cells (rcell r).toArray 76)) W' → Ms w g B2 lf W') := fun W' hb => hM7.step hb
      rw [val_eq] at hno
      rw [rcell_eq] at hno HS
      generalize rnodes r.2 = l at *
      generalize hv : r.2.lp (mbF g lf) = v at *
      rw [ha]
      have HA : Hid (g.a = some ⟨bb, o, none⟩) := ha
      clear hend HR HQ HC hr hru hA hM7 hb hck ha hv
      go_wp2_with (go_at_call 40; refine hno.mono ?_; rintro e5 W4 ⟨v4, rfl, hN4, hb4⟩; obtain ⟨gN, cpN, rfl, hga, hgb⟩ := World.ownsRow.form hN4 hpos; have HM4 : Hid (Ms w g B2 lf W4) := HS.out W4 hb4; have HN4 : Hid _ := hN4; clear hb4 HS hno hN4 c0 c1 c2 c3 c4 c5 c6 c7)
      go_loopw [36] (fun p wq => ∃ j : Nat, p = .int .i64 j ∧ j ≤ l.length ∧ Hid ((l.drop j).any (rep1 (mbF g lf)) = v) ∧ Hid (Ms w g B2 lf wq ∧ Below W4.heap.size W4 wq)) (fun p _ => l.length - (intOf p).toNat)
      case atStart => exact ⟨0, rfl, Nat.zero_le _, HV, HM4.out, Below.refl _ _⟩
      case round =>
        clear HV HM4
        obtain ⟨j, rfl, hj, HR, HQ⟩ := hrel
        by_cases hend : j = l.length
        · have g1 : decide (j < l.length) = false := by simp; omega
          have hv0 : v = false := by have := HR.out; rw [hend, List.drop_length] at this; simpa using this.symm
          have HR2 : Hid (fiF (fun r : ByteArray × Ex => r.2.lp (mbF g lf)) (i + 1) (g.rules.drop (i + 1)) = RL) := by have := HD.out; rw [hv0] at this; exact this
          clear hend HR hv0
          go_wp2_with fail
          exact ⟨⟨i + 1, by go_num, by omega, HR2, HQ.out.1⟩, by simp [intOf]; omega⟩
        · have hjl : j < l.length := by omega
          obtain ⟨y, hy⟩ : ∃ y, l[j]? = some y := ⟨_, List.getElem?_eq_getElem hjl⟩
          have hmem := List.mem_of_getElem? hy
          have hoy := HOk.out y hmem
          have hiy := HIn.out y hmem
          have hcell : ∀ m, m < 8 → wr.cell? ⟨gN, j * 8 + m, none⟩ = (ncell y).toArray[m]? := fun m hm => (HQ.out.2.cell (p := ⟨gN, j * 8 + m, none⟩) hgb).trans (Nd.at HN4.out hy m hm)
          have c0 := hcell 0 (by omega)
          have c1 := hcell 1 (by omega)
          have c2 := hcell 2 (by omega)
          have c3 := hcell 3 (by omega)
          have c4 := hcell 4 (by omega)
          have c5 := hcell 5 (by omega)
          have c6 := hcell 6 (by omega)
          have c7 := hcell 7 (by omega)
          rw [ncell_eq] at c0 c1 c2 c3 c4 c5 c6 c7
          simp only [List.getElem?_toArray, List.getElem?_cons_zero, List.getElem?_cons_succ, Nat.add_zero] at c0 c1 c2 c3 c4 c5 c6 c7
          have hA := (Below.refl _ wr).alloc (Nat.le_refl _) (.cells (ncell y).toArray 80)
          have hMn : Mn w g B2 wr.heap.size lf y (wr.alloc (.cells (ncell y).toArray 80)) := ⟨HQ.out.1.step hA, BoxN.new wr 80 _⟩
          have HB4 : Hid (∀ W, Below (wr.alloc (.cells (ncell y).toArray 80)).heap.size (wr.alloc (.cells (ncell y).toArray 80)) W → Below W4.heap.size W4 W) := fun W h => HQ.out.2.trans ((hA.trans (h.mono hA.size)).mono HQ.out.2.size)
          have HDj : Hid ((rep1 (mbF g lf) y || (l.drop (j + 1)).any (rep1 (mbF g lf))) = v) := by have := HR.out; rw [drop_at _ _ _ hy, List.any_cons] at this; exact this
          have hyk : (y.2.k = 7 ∧ ∃ x, y.2.kids = [x]) ∨ (y.2.k = 8 ∧ ∃ x, y.2.kids = [x]) ∨ ((y.2.k == 7) = false ∧ (y.2.k == 8) = false ∧ rep1 (mbF g lf) y = false) := by
            by_cases h7 : y.2.k = 7
            · exact .inl ⟨h7, star_kid ((ok_eq _ _).1 hoy).1 (.inl h7)⟩
            · by_cases h8 : y.2.k = 8
              · exact .inr (.inl ⟨h8, star_kid ((ok_eq _ _).1 hoy).1 (.inr h8)⟩)
              · exact .inr (.inr ⟨by simpa using h7, by simpa using h8, by simp [rep1, h7, h8]⟩)
          rw [ncell_eq] at hMn HB4
          clear hcell hend HR HQ hy hmem hA
          go_wp2_with fail
          have HB5 : Hid (∀ W, Below (wr.alloc (.cells #[.int .i64 y.2.k, .int .u64 (wd y.2.S 0), .int .u64 (wd y.2.S 1), .int .u64 (wd y.2.S 2), .int .u64 (wd y.2.S 3), .string y.2.t, .slice y.2.a y.2.kids.length y.2.c, .int .i64 y.1] 80)).heap.size (wr.alloc (.cells #[.int .i64 y.2.k, .int .u64 (wd y.2.S 0), .int .u64 (wd y.2.S 1), .int .u64 (wd y.2.S 2), .int .u64 (wd y.2.S 3), .string y.2.t, .slice y.2.a y.2.kids.length y.2.c, .int .i64 y.1] 80)) W → Below W4.heap.size W4 W) := HB4.out
          clear HB4 HOk HIn
          rcases hyk with ⟨hk, x, hx⟩ | ⟨hk, x, hx⟩ | ⟨hk7, hk8, hrep⟩
          · have HK : Hid (y.2.k = 7) := hk
            obtain ⟨⟨b2, o2, ha2, hlt2, -⟩, -⟩ := (hiy _ hMn.m.bel).kid (j := 0) (x := x) (by rw [hx]; rfl)
            have HA2 : Hid (y.2.a = some ⟨b2, o2, none⟩ ∧ y.2.kids.length = 1) := ⟨ha2, by rw [hx]; rfl⟩
            have hkc : ∀ W, Below w.heap.size w W → W.cell? ⟨b2, o2, none⟩ = some (.int .i64 x.k) ∧ W.cell? ⟨b2, o2 + 1, none⟩ = some (.int .u64 (wd x.S 0)) ∧ W.cell? ⟨b2, o2 + 2, none⟩ = some (.int .u64 (wd x.S 1)) ∧ W.cell? ⟨b2, o2 + 3, none⟩ = some (.int .u64 (wd x.S 2)) ∧ W.cell? ⟨b2, o2 + 4, none⟩ = some (.int .u64 (wd x.S 3)) ∧ W.cell? ⟨b2, o2 + 5, none⟩ = some (.string x.t) ∧ W.cell? ⟨b2, o2 + 6, none⟩ = some (.slice x.a x.kids.length x.c) := fun W hb => by
              obtain ⟨⟨b', o', ha', _, hc⟩, _⟩ := (hiy W hb).kid (j := 0) (x := x) (by rw [hx]; rfl)
              rw [HA2.out.1] at ha'
              cases ha'
              exact ⟨hc 0 (by omega), hc 1 (by omega), hc 2 (by omega), hc 3 (by omega), hc 4 (by omega), hc 5 (by omega), hc 6 (by omega)⟩
            have hq0 : ∀ W, Mn w g B2 wr.heap.size lf y W → W.cell? ⟨wr.heap.size, 0, none⟩ = some (.int .i64 7) := fun W h => by rw [← HK.out]; exact h.b.cell 0
            have hq6 : ∀ W, Mn w g B2 wr.heap.size lf y W → W.cell? ⟨wr.heap.size, 6, none⟩ = some (.slice (some ⟨b2, o2, none⟩) 1 y.2.c) := fun W h => by
              have h6 : W.cell? ⟨wr.heap.size, 6, none⟩ = some (.slice y.2.a y.2.kids.length y.2.c) := h.b.cell 6
              rw [HA2.out.1, HA2.out.2] at h6
              exact h6
            have hqg : ∀ W, Mn w g B2 wr.heap.size lf y W → W.cell? ⟨w.heap.size, 0, none⟩ = some (.slice (some ⟨bb, o, none⟩) g.rules.length g.c) := fun W h => by rw [← HA.out]; exact h.m.b0.cell 0
            have hxm : x ∈ y.2.kids := by rw [hx]; simp
            have hm : ∀ W, Mn w g B2 wr.heap.size lf y W → Calls Try.prog 69 #[.agg #[.slice (some ⟨bb, o, none⟩) g.rules.length g.c], .slice (some ⟨B2, 0, none⟩) g.rules.length cp2, .agg #[.int .i64 x.k, .int .u64 (wd x.S 0), .int .u64 (wd x.S 1), .int .u64 (wd x.S 2), .int .u64 (wd x.S 3), .string x.t, .slice x.a x.kids.length x.c]] W fun r W' => r = .returned (.int .i64 (encF (x.may (ofL noF g.rules lf)))) ∧ Below W.heap.size W W' := fun W h => by
              have := ry_any g lf B2 cp2 W.heap.size h10 x (hoy.kid hxm) W ((((hiy W h.m.bel).kid (j := 0) (x := x) (by rw [hx]; rfl)).2).mono h.m.bel.size) (h.m.kn HI.out HL.out.pre.len)
              rw [gval_eq, val_eq, HA.out] at this
              exact this
            have hrep : rep1 (mbF g lf) y = mbF g lf x := by simp [rep1, hk, hx]
            rw [hrep] at HDj
            have hbit := bit1w (x.may (ofL noF g.rules lf))
            have hmb : (x.may (ofL noF g.rules lf)).1 = mbF g lf x := rfl
            rw [hmb] at hbit
            generalize encF (x.may (ofL noF g.rules lf)) = ef at *
            generalize mbF g lf x = v1 at *
            clear hiy hoy hxm hrep hmb hx hk ha2 c0 c1 c2 c3 c4 c5 c6 c7
            generalize wr.alloc (.cells #[.int .i64 y.2.k, .int .u64 (wd y.2.S 0), .int .u64 (wd y.2.S 1), .int .u64 (wd y.2.S 2), .int .u64 (wd y.2.S 3), .string y.2.t, .slice y.2.a y.2.kids.length y.2.c, .int .i64 y.1] 80) = w1 at *
            cases v1
            all_goals
              refine wp_region_all (Mq w g B2 wr.heap.size lf y w1) _ (by kernel_rfl) (by kernel_rfl) ⟨hMn.step (Below.refl _ w1).drew, (Below.refl _ w1).drew⟩ ?_
              repeat (first
                | go_big_quiet_skip
                | (go_big_quiet_want
                   apply Exists.intro
                   refine ⟨fun W hW => ?_, ?_⟩
                   · have q0 := hq0 W hW.toMn
                     have q6 := hq6 W hW.toMn
                     have qg := hqg W hW.toMn
                     obtain ⟨d0, d1, d2, d3, d4, d5, d6⟩ := hkc W hW.toMn.m.bel
                     unfold Oper.quietAt
                     go_simp
                     first
                       | with_reducible exact rfl
                       | with_reducible exact ⟨rfl, rfl⟩
                       | (go_at_call 69
                          refine (hm W hW.toMn).mono ?_
                          rintro e5 W1 ⟨rfl, hb⟩
                          exact ⟨rfl, hW.step hb⟩)
                   go_big_quiet_on
                   simp only [Act.put, List.setIfInBounds_toArray, List.set_cons_zero, List.set_cons_succ]))
              refine wpQuiet_nil ?_
              intro W hW
              clear hm hkc hbit hMn hq0 hq6 hqg
              first
              | (have HRj : Hid ((l.drop (j + 1)).any (rep1 (mbF g lf)) = v) := HDj.out
                 have HQ2 : Hid (Ms w g B2 lf W ∧ Below W4.heap.size W4 W) := ⟨hW.toMn.m, HB5.out W hW.up⟩
                 clear hW
                 go_wp2_with fail
                 exact ⟨⟨j + 1, by go_num, by omega, HRj, HQ2⟩, by simp [intOf]; omega⟩)
              | (have hv1 : v = true := HDj.out.symm
                 have hR2 : some i = RL := by have := HD.out; rw [hv1] at this; exact this
                 subst hR2
                 have HB9 : Hid (Below w.heap.size w W) := hW.toMn.m.bel
                 clear hW
                 go_wp2_with fail
                 refine HG.out _ _ ⟨lf, HL.out, (i : Int), 9, ?_, ?_, HB9.out⟩
                 · unfold WellN
                   rw [HRR.out]
                   exact ⟨rfl, rfl⟩
                 · simp)
          · have HK : Hid (y.2.k = 8) := hk
            obtain ⟨⟨b2, o2, ha2, hlt2, -⟩, -⟩ := (hiy _ hMn.m.bel).kid (j := 0) (x := x) (by rw [hx]; rfl)
            have HA2 : Hid (y.2.a = some ⟨b2, o2, none⟩ ∧ y.2.kids.length = 1) := ⟨ha2, by rw [hx]; rfl⟩
            have hkc : ∀ W, Below w.heap.size w W → W.cell? ⟨b2, o2, none⟩ = some (.int .i64 x.k) ∧ W.cell? ⟨b2, o2 + 1, none⟩ = some (.int .u64 (wd x.S 0)) ∧ W.cell? ⟨b2, o2 + 2, none⟩ = some (.int .u64 (wd x.S 1)) ∧ W.cell? ⟨b2, o2 + 3, none⟩ = some (.int .u64 (wd x.S 2)) ∧ W.cell? ⟨b2, o2 + 4, none⟩ = some (.int .u64 (wd x.S 3)) ∧ W.cell? ⟨b2, o2 + 5, none⟩ = some (.string x.t) ∧ W.cell? ⟨b2, o2 + 6, none⟩ = some (.slice x.a x.kids.length x.c) := fun W hb => by
              obtain ⟨⟨b', o', ha', _, hc⟩, _⟩ := (hiy W hb).kid (j := 0) (x := x) (by rw [hx]; rfl)
              rw [HA2.out.1] at ha'
              cases ha'
              exact ⟨hc 0 (by omega), hc 1 (by omega), hc 2 (by omega), hc 3 (by omega), hc 4 (by omega), hc 5 (by omega), hc 6 (by omega)⟩
            have hq0 : ∀ W, Mn w g B2 wr.heap.size lf y W → W.cell? ⟨wr.heap.size, 0, none⟩ = some (.int .i64 8) := fun W h => by rw [← HK.out]; exact h.b.cell 0
            have hq6 : ∀ W, Mn w g B2 wr.heap.size lf y W → W.cell? ⟨wr.heap.size, 6, none⟩ = some (.slice (some ⟨b2, o2, none⟩) 1 y.2.c) := fun W h => by
              have h6 : W.cell? ⟨wr.heap.size, 6, none⟩ = some (.slice y.2.a y.2.kids.length y.2.c) := h.b.cell 6
              rw [HA2.out.1, HA2.out.2] at h6
              exact h6
            have hqg : ∀ W, Mn w g B2 wr.heap.size lf y W → W.cell? ⟨w.heap.size, 0, none⟩ = some (.slice (some ⟨bb, o, none⟩) g.rules.length g.c) := fun W h => by rw [← HA.out]; exact h.m.b0.cell 0
            have hxm : x ∈ y.2.kids := by rw [hx]; simp
            have hm : ∀ W, Mn w g B2 wr.heap.size lf y W → Calls Try.prog 69 #[.agg #[.slice (some ⟨bb, o, none⟩) g.rules.length g.c], .slice (some ⟨B2, 0, none⟩) g.rules.length cp2, .agg #[.int .i64 x.k, .int .u64 (wd x.S 0), .int .u64 (wd x.S 1), .int .u64 (wd x.S 2), .int .u64 (wd x.S 3), .string x.t, .slice x.a x.kids.length x.c]] W fun r W' => r = .returned (.int .i64 (encF (x.may (ofL noF g.rules lf)))) ∧ Below W.heap.size W W' := fun W h => by
              have := ry_any g lf B2 cp2 W.heap.size h10 x (hoy.kid hxm) W ((((hiy W h.m.bel).kid (j := 0) (x := x) (by rw [hx]; rfl)).2).mono h.m.bel.size) (h.m.kn HI.out HL.out.pre.len)
              rw [gval_eq, val_eq, HA.out] at this
              exact this
            have hrep : rep1 (mbF g lf) y = mbF g lf x := by simp [rep1, hk, hx]
            rw [hrep] at HDj
            have hbit := bit1w (x.may (ofL noF g.rules lf))
            have hmb : (x.may (ofL noF g.rules lf)).1 = mbF g lf x := rfl
            rw [hmb] at hbit
            generalize encF (x.may (ofL noF g.rules lf)) = ef at *
            generalize mbF g lf x = v1 at *
            clear hiy hoy hxm hrep hmb hx hk ha2 c0 c1 c2 c3 c4 c5 c6 c7
            generalize wr.alloc (.cells #[.int .i64 y.2.k, .int .u64 (wd y.2.S 0), .int .u64 (wd y.2.S 1), .int .u64 (wd y.2.S 2), .int .u64 (wd y.2.S 3), .string y.2.t, .slice y.2.a y.2.kids.length y.2.c, .int .i64 y.1] 80) = w1 at *
            cases v1
            all_goals
              refine wp_region_all (Mq w g B2 wr.heap.size lf y w1) _ (by kernel_rfl) (by kernel_rfl) ⟨hMn.step (Below.refl _ w1).drew, (Below.refl _ w1).drew⟩ ?_
              repeat (first
                | go_big_quiet_skip
                | (go_big_quiet_want
                   apply Exists.intro
                   refine ⟨fun W hW => ?_, ?_⟩
                   · have q0 := hq0 W hW.toMn
                     have q6 := hq6 W hW.toMn
                     have qg := hqg W hW.toMn
                     obtain ⟨d0, d1, d2, d3, d4, d5, d6⟩ := hkc W hW.toMn.m.bel
                     unfold Oper.quietAt
                     go_simp
                     first
                       | with_reducible exact rfl
                       | with_reducible exact ⟨rfl, rfl⟩
                       | (go_at_call 69
                          refine (hm W hW.toMn).mono ?_
                          rintro e5 W1 ⟨rfl, hb⟩
                          exact ⟨rfl, hW.step hb⟩)
                   go_big_quiet_on
                   simp only [Act.put, List.setIfInBounds_toArray, List.set_cons_zero, List.set_cons_succ]))
              refine wpQuiet_nil ?_
              intro W hW
              clear hm hkc hbit hMn hq0 hq6 hqg
              first
              | (have HRj : Hid ((l.drop (j + 1)).any (rep1 (mbF g lf)) = v) := HDj.out
                 have HQ2 : Hid (Ms w g B2 lf W ∧ Below W4.heap.size W4 W) := ⟨hW.toMn.m, HB5.out W hW.up⟩
                 clear hW
                 go_wp2_with fail
                 exact ⟨⟨j + 1, by go_num, by omega, HRj, HQ2⟩, by simp [intOf]; omega⟩)
              | (have hv1 : v = true := HDj.out.symm
                 have hR2 : some i = RL := by have := HD.out; rw [hv1] at this; exact this
                 subst hR2
                 have HB9 : Hid (Below w.heap.size w W) := hW.toMn.m.bel
                 clear hW
                 go_wp2_with fail
                 refine HG.out _ _ ⟨lf, HL.out, (i : Int), 9, ?_, ?_, HB9.out⟩
                 · unfold WellN
                   rw [HRR.out]
                   exact ⟨rfl, rfl⟩
                 · simp)
          · rw [hrep] at HDj
            clear hiy hoy hrep c0 c1 c2 c3 c4 c5 c6 c7
            generalize wr.alloc (.cells #[.int .i64 y.2.k, .int .u64 (wd y.2.S 0), .int .u64 (wd y.2.S 1), .int .u64 (wd y.2.S 2), .int .u64 (wd y.2.S 3), .string y.2.t, .slice y.2.a y.2.kids.length y.2.c, .int .i64 y.1] 80) = w1 at *
            refine wp_region_all (Mq w g B2 wr.heap.size lf y w1) _ (by kernel_rfl) (by kernel_rfl) ⟨hMn.step (Below.refl _ w1).drew, (Below.refl _ w1).drew⟩ ?_
            repeat (first
              | go_big_quiet_skip
              | (go_big_quiet_want
                 apply Exists.intro
                 refine ⟨fun W hW => ?_, ?_⟩
                 · have q0 : W.cell? ⟨wr.heap.size, 0, none⟩ = some (.int .i64 y.2.k) := hW.toMn.b.cell 0
                   unfold Oper.quietAt
                   go_simp
                   first
                     | with_reducible exact rfl
                     | with_reducible exact ⟨rfl, rfl⟩
                 go_big_quiet_on
                 simp only [Act.put, List.setIfInBounds_toArray, List.set_cons_zero, List.set_cons_succ]))
            refine wpQuiet_nil ?_
            intro W hW
            clear hMn
            have HRj : Hid ((l.drop (j + 1)).any (rep1 (mbF g lf)) = v) := HDj.out
            have HQ2 : Hid (Ms w g B2 lf W ∧ Below W4.heap.size W4 W) := ⟨hW.toMn.m, HB5.out W hW.up⟩
            clear hW
            go_wp2_with fail
            exact ⟨⟨j + 1, by go_num, by omega, HRj, HQ2⟩, by simp [intOf]; omega⟩
set_option maxRecDepth 20000 in
set_option maxHeartbeats 4000000 in
theorem rwell_no (g : Gr) (h0 : gcheck g.rules ≠ 0) (w : World) (hin : g.In w.heap.size w) : Calls Try.prog 42 #[g.val] w fun r W' => r = .returned (.tuple #[.int .i64 0, .int .i64 (gcheck g.rules)]) ∧ Below w.heap.size w W' := by
  have hA := (Below.refl w.heap.size w).alloc (Nat.le_refl _) (.cells #[.slice g.a g.rules.length g.c] 24)
  have hck := rgram_any g _ (hin.grow hA)
  have HN : Hid (∀ W, Below (w.alloc (.cells #[.slice g.a g.rules.length g.c] 24)).heap.size (w.alloc (.cells #[.slice g.a g.rules.length g.c] 24)) W → Below w.heap.size w W) := fun W h => hA.trans (h.mono hA.size)
  have g1 : (gcheck g.rules != 0) = true := by simpa using h0
  rw [gval_eq] at hck ⊢
  generalize gcheck g.rules = C at *
  clear hA hin
  go_enter Try.func42, Try.ntmps42
  go_wp2_with (go_at_call 67; refine hck.mono ?_; rintro e W1 ⟨rfl, hb1⟩; have k1 := HN.out W1 hb1; clear hb1 hck)
  refine bodyPost_ret (by simp [results, Try.results42, go_sem]) rfl ⟨rfl, k1⟩
end Go.Proofs.Ytokdaapmejccbaa
