import Derived.Test.YtbeohmcmphebhaaDoorXFull
import Derived.Test.YtbeohmcmphebhaaDoorXParts
import Derived.Test.YtbeohmcmphebhaaDoorXEq
namespace Go.Proofs.YtbeohmcmphebhaaDoor
open Go.RowKit
open Ex.same (sameL)
set_option linter.unusedVariables false
attribute [local go_sem] eq_arr
theorem sameL_len : ∀ (l m : List Ex), sameL l m = true → l.length = m.length
  | [], [], _ => rfl
  | [], _ :: _, h => by simp [sameL] at h
  | _ :: _, [], h => by simp [sameL] at h
  | x :: r, y :: s, h => by rw [sameL_cons] at h; simp [sameL_len r s h.2]
theorem sameL_at : ∀ (l m : List Ex) (i : Nat) (x y : Ex), sameL l m = true → l[i]? = some x → m[i]? = some y → x.same y = true
  | x :: r, y :: s, 0, a, b, h, h1, h2 => by
    rw [sameL_cons] at h
    simp at h1 h2; subst h1 h2; exact h.1
  | x :: r, y :: s, i + 1, a, b, h, h1, h2 => by
    rw [sameL_cons] at h
    exact sameL_at r s i a b h.2 (by simpa using h1) (by simpa using h2)
  | [], _, _, _, _, _, h1, _ => by simp at h1
  | _ :: _, [], _, _, _, h, _, _ => by simp [sameL] at h
theorem sameL_all : ∀ (l m : List Ex), l.length = m.length → (∀ (i : Nat) (x y : Ex), l[i]? = some x → m[i]? = some y → x.same y = true) → sameL l m = true
  | [], [], _, _ => rfl
  | [], _ :: _, h, _ => by simp at h
  | _ :: _, [], h, _ => by simp at h
  | x :: r, y :: s, h, H => by
    rw [sameL_cons]
    exact ⟨H 0 x y rfl rfl, sameL_all r s (by simpa using h) fun i a b h1 h2 => H (i + 1) a b (by simpa using h1) (by simpa using h2)⟩
/-- What Same does with an expression. -/
def SmC (a : Ex) : Prop := ∀ (b : Ex) (w : World), a.In w.heap.size w → b.In w.heap.size w → Calls Tryd.prog 10 #[a.val, b.val] w fun r w' => r = .returned (.bool (a.same b)) ∧ Below w.heap.size w w'
set_option maxRecDepth 20000 in
set_option maxHeartbeats 4000000 in
theorem eqf_any (a b : Ex) (hs : ∀ x ∈ a.kids, SmC x) (w : World) (hia : a.In w.heap.size w) (hib : b.In w.heap.size w) :
    Calls Tryd.prog 19 #[.slice a.a a.kids.length a.c, .slice b.a b.kids.length b.c, .func (.func 10) #[] #[]] w fun r w' => r = .returned (.bool (sameL a.kids b.kids)) ∧ Below w.heap.size w w' := by
  have hla := hia.len
  have hlb := hib.len
  obtain ⟨R, hR⟩ : ∃ R, sameL a.kids b.kids = R := ⟨_, rfl⟩
  have HR : Hid (sameL a.kids b.kids = R) := hR
  rw [hR]
  clear hR
  by_cases hl : a.kids.length = b.kids.length
  · have HL : Hid (a.kids.length = b.kids.length) := hl
    have HA : Hid (a.In w.heap.size w ∧ b.In w.heap.size w ∧ ∀ x ∈ a.kids, SmC x) := ⟨hia, hib, hs⟩
    clear hia hib hs hl
    rw [← HL.out]
    go_enter Tryd.func19, Tryd.ntmps19
    go_wp2_with fail
    go_loopw [17] (fun q wr => ∃ i : Nat, q = .int .i64 i ∧ i ≤ a.kids.length ∧ Hid (∀ j x y, j < i → a.kids[j]? = some x → b.kids[j]? = some y → x.same y = true) ∧ Hid (Below w.heap.size w wr)) (fun q _ => a.kids.length - (intOf q).toNat)
    case atStart => exact ⟨0, rfl, Nat.zero_le _, fun j _ _ hj => by omega, Below.refl _ _⟩
    case round =>
      obtain ⟨i, rfl, hi, HS, HB⟩ := hrel
      by_cases hend : i = a.kids.length
      · have hRt : R = true := by
          rw [← HR.out]
          exact sameL_all _ _ HL.out fun j x y h1 h2 => HS.out j x y (by have := (List.getElem?_eq_some_iff.1 h1).1; omega) h1 h2
        subst hend
        subst hRt
        go_wp2_with fail
        go_ret
        exact ⟨rfl, HB.out⟩
      · have hlt : i < a.kids.length := by omega
        clear hend
        obtain ⟨x, hx⟩ : ∃ x, a.kids[i]? = some x := ⟨_, List.getElem?_eq_getElem hlt⟩
        obtain ⟨y, hy⟩ : ∃ y, b.kids[i]? = some y := ⟨_, List.getElem?_eq_getElem (by have := HL.out; omega)⟩
        obtain ⟨⟨bx, ox, hax, hbx, hcx⟩, hinx⟩ := (HA.out.1.below HB.out).kid hx
        obtain ⟨⟨by', oy, hay, hby, hcy⟩, hiny⟩ := (HA.out.2.1.below HB.out).kid hy
        have hszw := HB.out.size
        have hAx := (Below.refl wr.heap.size wr).alloc (Nat.le_refl _) (.cells x.cells 27)
        have c0 := hcx 0 (by omega)
        have c1 := hcx 1 (by omega)
        have c2 := hcx 2 (by omega)
        have c3 := hcx 3 (by omega)
        have c4 := hcx 4 (by omega)
        have c5 := hcx 5 (by omega)
        have c6 := hcx 6 (by omega)
        have hcy2 : ∀ m, m < 7 → (wr.alloc (.cells x.cells 27)).cell? ⟨by', oy + i * 7 + m, none⟩ = y.cells[m]? := fun m hm => (hAx.cell (p := ⟨by', oy + i * 7 + m, none⟩) (by show by' < _; omega)).trans (hcy m hm)
        have d0 := hcy2 0 (by omega)
        have d1 := hcy2 1 (by omega)
        have d2 := hcy2 2 (by omega)
        have d3 := hcy2 3 (by omega)
        have d4 := hcy2 4 (by omega)
        have d5 := hcy2 5 (by omega)
        have d6 := hcy2 6 (by omega)
        simp only [cells_eq] at c0 c1 c2 c3 c4 c5 c6 d0 d1 d2 d3 d4 d5 d6
        simp only [List.getElem?_toArray, List.getElem?_cons_zero, List.getElem?_cons_succ, Nat.add_zero] at c0 c1 c2 c3 c4 c5 c6 d0 d1 d2 d3 d4 d5 d6
        rw [hax, hay]
        have hAy := hAx.alloc (by simp) (.cells y.cells 27)
        have hcall := HA.out.2.2 x (List.mem_of_getElem? hx) y ((wr.alloc (.cells x.cells 27)).alloc (.cells y.cells 27)) ((hinx.below (hAy.mono hszw)).mono (by simp; omega)) ((hiny.below (hAy.mono hszw)).mono (by simp; omega))
        rw [val_eq, val_eq, cells_eq, cells_eq] at hcall
        have HBn : Hid (∀ {W4 : World}, Below ((wr.alloc (.cells x.cells 27)).alloc (.cells y.cells 27)).heap.size ((wr.alloc (.cells x.cells 27)).alloc (.cells y.cells 27)) W4 → Below w.heap.size w W4) := fun hb => HB.out.trans ((hAy.trans (hb.mono (by simp; omega))).mono hszw)
        have bX := (BoxN.new wr 27 x.cells).alloc (.cells y.cells 27)
        have cBX := bX.cell
        simp only [cells_eq] at cBX
        have H1 : Hid (x.same y = false → R = false) := fun h => by
          rw [← HR.out, Bool.eq_false_iff]
          intro h2
          rw [sameL_at _ _ i x y h2 hx hy] at h
          cases h
        have H2 : Hid (x.same y = true → ∀ j u v, j < i + 1 → a.kids[j]? = some u → b.kids[j]? = some v → u.same v = true) := fun h j u v hj h1 h2 => by
          by_cases hji : j = i
          · subst hji
            rw [hx] at h1
            rw [hy] at h2
            cases h1
            cases h2
            exact h
          · exact HS.out j u v (by omega) h1 h2
        clear hcx hcy hcy2 hinx hiny hax hay hbx hby hx hy hAx hAy bX HS HB
        cases hsm : x.same y with
        | false =>
          have hRf := H1.out hsm
          rw [hsm] at hcall
          clear hsm H1 H2
          subst hRf
          go_wp2_with (go_at_call 10; refine hcall.mono ?_; clear hcall; rintro r W4 ⟨rfl, hb4⟩; simp only [← cells_eq] at hb4)
          go_ret
          exact ⟨rfl, HBn.out hb4⟩
        | true =>
          have H3 : Hid _ := H2.out hsm
          rw [hsm] at hcall
          clear hsm H1 H2
          go_wp2_with (go_at_call 10; refine hcall.mono ?_; clear hcall; rintro r W4 ⟨rfl, hb4⟩; simp only [← cells_eq] at hb4)
          exact ⟨⟨i + 1, by go_num, by omega, H3, HBn.out hb4⟩, by simp [intOf]; omega⟩
  · have hRf : R = false := by
      rw [← HR.out, Bool.eq_false_iff]
      intro h
      exact hl (sameL_len _ _ h)
    subst hRf
    have g : ((a.kids.length : Int) != (b.kids.length : Int)) = true := by simp; omega
    go_enter Tryd.func19, Tryd.ntmps19
    go_wp2_with fail
    go_ret
    exact ⟨rfl, Below.refl _ _⟩
theorem ws_test (S T : BitVec 256) : ((wd S 0 == wd T 0) && ((wd S 1 == wd T 1) && ((wd S 2 == wd T 2) && (wd S 3 == wd T 3)))) = decide (S = T) := by
  rw [Bool.eq_iff_iff, decide_eq_true_eq]
  simp only [Bool.and_eq_true, beq_iff_eq]
  constructor
  · rintro ⟨h0, h1, h2, h3⟩
    exact wd_inj _ _ fun k hk => by
      match k, hk with
      | 0, _ => exact h0
      | 1, _ => exact h1
      | 2, _ => exact h2
      | 3, _ => exact h3
  · rintro rfl
    exact ⟨rfl, rfl, rfl, rfl⟩
theorem same_and (a b : Ex) : a.same b = (decide (a.k = b.k) && decide (a.S = b.S) && decide (a.t = b.t) && sameL a.kids b.kids) := by
  rw [Bool.eq_iff_iff, same_iff]
  simp only [Bool.and_eq_true, decide_eq_true_eq]
  constructor
  · rintro ⟨h1, h2, h3, h4⟩; exact ⟨⟨⟨h1, h2⟩, h3⟩, h4⟩
  · rintro ⟨⟨⟨h1, h2⟩, h3⟩, h4⟩; exact ⟨h1, h2, h3, h4⟩
set_option maxRecDepth 20000 in
set_option maxHeartbeats 4000000 in
theorem same_step (a b : Ex) (hs : ∀ x ∈ a.kids, SmC x) (w : World) (hia : a.In w.heap.size w) (hib : b.In w.heap.size w) :
    Calls Tryd.prog 10 #[a.val, b.val] w fun r w' => r = .returned (.bool (a.same b)) ∧ Below w.heap.size w w' := by
  have hA := ((Below.refl w.heap.size w).alloc (Nat.le_refl _) (.cells a.cells 27)).alloc (by simp) (.cells b.cells 27)
  have heq := eqf_any a b hs ((w.alloc (.cells a.cells 27)).alloc (.cells b.cells 27)) (hia.grow hA) (hib.grow hA)
  have HA : Hid _ := hA
  have H : Hid (a.same b = _) := same_and a b
  have hws := ws_test a.S b.S
  generalize a.same b = R at *
  rw [val_eq, val_eq]
  rw [cells_eq, cells_eq] at heq
  generalize sameL a.kids b.kids = L at *
  clear hA hs
  cases hk : decide (a.k = b.k) with
  | false =>
    have g : (a.k == b.k) = false := by simpa using hk
    have hR : R = false := by rw [H.out, hk]; rfl
    subst hR
    clear hk
    go_enter Tryd.func10, Tryd.ntmps10
    go_wp2_with fail
    go_ret
    simp only [← cells_eq]
    exact ⟨rfl, HA.out⟩
  | true =>
    have g : (a.k == b.k) = true := by simpa using hk
    cases hS : decide (a.S = b.S) with
    | false =>
      have hR : R = false := by rw [H.out, hk, hS]; rfl
      subst hR
      rw [hS] at hws
      clear hk hS
      go_enter Tryd.func10, Tryd.ntmps10
      go_wp2_with fail
      go_ret
      simp only [← cells_eq]
      exact ⟨rfl, HA.out⟩
    | true =>
      rw [hS] at hws
      cases ht : decide (a.t = b.t) with
      | false =>
        have hR : R = false := by rw [H.out, hk, hS, ht]; rfl
        have g4 : (a.t.toList == b.t.toList) = false := by
          rw [beq_eq_false_iff_ne]
          intro h
          rw [ByteArray.toList_eq, ByteArray.toList_eq] at h
          have h2 : a.t = b.t := by
            cases ha : a.t with
            | mk x => cases hb : b.t with
              | mk y =>
                rw [ha, hb] at h
                congr 1
                exact Array.ext' h
          simp [h2] at ht
        subst hR
        clear hk hS ht
        go_enter Tryd.func10, Tryd.ntmps10
        go_wp2_with fail
        go_ret
        simp only [← cells_eq]
        exact ⟨rfl, HA.out⟩
      | true =>
        have hR : R = L := by rw [H.out, hk, hS, ht]; simp
        have hte : a.t = b.t := by simpa using ht
        have g4 : (a.t.toList == b.t.toList) = true := by rw [hte]; simp
        subst hR
        clear hk hS ht hte
        go_enter Tryd.func10, Tryd.ntmps10
        go_wp2_with (go_at_call 19; refine heq.mono ?_; clear heq; rintro r W4 ⟨rfl, hb4⟩; simp only [← cells_eq] at hb4)
        go_ret
        exact ⟨rfl, HA.out.trans (hb4.mono HA.out.size)⟩
theorem same_size : ∀ (n : Nat) (a : Ex), a.size ≤ n → SmC a
  | 0, a, h => absurd h (by rw [size_eq]; omega)
  | n + 1, a, h => fun b w hia hib => same_step a b (fun x hx => same_size n x (by have := size_kid hx; omega)) w hia hib
theorem same_any (a b : Ex) (w : World) (hia : a.In w.heap.size w) (hib : b.In w.heap.size w) :
    Calls Tryd.prog 10 #[a.val, b.val] w fun r w' => r = .returned (.bool (a.same b)) ∧ Below w.heap.size w w' :=
  same_size a.size a (Nat.le_refl _) b w hia hib
end Go.Proofs.YtbeohmcmphebhaaDoor
