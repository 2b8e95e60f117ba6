import Derived.Test.YtbeohmcmphebhaaGreatDoorXWith
import Derived.Test.YtbeohmcmphebhaaGreatDoorXParA
import Derived.Deep.LoopGhost
import Derived.Deep.AppendLies
namespace Go.Proofs.YtbeohmcmphebhaaGreatDoor
open Go.RowKit
set_option linter.unusedVariables false
theorem bl5_fin : ∀ k : Fin 256, decide (0 ≤ Lib.indexByte [32, 9, 10, 13, 35] (UInt8.ofNat k.val)) = (isBl (UInt8.ofNat k.val) || (UInt8.ofNat k.val == 35)) := by decide +kernel
theorem bl5_is (c : UInt8) : decide (0 ≤ Lib.indexByte [32, 9, 10, 13, 35] c) = (isBl c || (c == 35)) := by
  have := bl5_fin ⟨c.toNat, c.toNat_lt⟩
  simpa using this
theorem skip35 (r : List UInt8) : skip (35 :: r) = skip ((35 :: r).dropWhile (· != 10)) := by
  have hd : (35 :: r).dropWhile isBl = 35 :: r := by rw [List.dropWhile_cons]; rfl
  rw [skip_yes (35 :: r) (by rw [hd]; rfl), hd]
  unfold behind10
  cases h : (35 :: r).dropWhile (· != 10) with
  | nil => rfl
  | cons a q =>
    have ha : a = 10 := by
      have := List.head?_dropWhile_not (· != 10) (35 :: r)
      rw [h] at this
      simpa using this
    subst ha
    rw [skip_blank 10 q rfl]; rfl
theorem skip_idem (l : List UInt8) (c : UInt8) (r : List UInt8) (hl : l = c :: r) (h : (isBl c || (c == 35)) = false) : skip l = l := by
  rw [Bool.or_eq_false_iff] at h
  rw [hl, skip_cons c r h.1 (by simpa using h.2)]
theorem drop_get (T : ByteArray) (i : Nat) (h : i < T.size) : T.data.toList.drop i = T[i] :: T.data.toList.drop (i + 1) := by
  have h' : i < T.data.toList.length := by rw [llen]; exact h
  rw [List.drop_eq_getElem_cons h']
  rfl
set_option maxRecDepth 20000 in
set_option maxHeartbeats 4000000 in
theorem rblank_any (T : ByteArray) (i : Nat) (w : World) (hT : T.size ≤ 2000000) (hi : i ≤ T.size) :
    Calls Tryz.prog 25 #[.string T, .int .i64 i] w fun e w' => (∃ k : Nat, e = .returned (.int .i64 k) ∧ i ≤ k ∧ k ≤ T.size ∧ T.data.toList.drop k = skip (T.data.toList.drop i)) ∧ w' = w := by
  have hix : ∀ (c : UInt8) (W : World), Calls Tryz.prog 32 #[.string ⟨#[32, 9, 10, 13, 35]⟩, .int .u8 (c.toNat : Int)] W fun e w' => e = .returned (.int .i64 (Lib.indexByte [32, 9, 10, 13, 35] c)) ∧ w' = W := fun c W => by
    have := Tryz.strings_IndexByte ⟨#[32, 9, 10, 13, 35]⟩ (c.toNat : Int) W
    simpa using this
  have HS : Hid (skip (T.data.toList.drop i) = skip (T.data.toList.drop i)) := rfl
  generalize hR : skip (T.data.toList.drop i) = R at *
  go_enter Tryz.func25, Tryz.ntmps25
  go_wp2_with fail
  go_loopw [1] (fun p wr => ∃ k : Nat, p = .int .i64 k ∧ i ≤ k ∧ k ≤ T.size ∧ Hid (skip (T.data.toList.drop k) = R) ∧ wr = w) (fun p _ => T.size - (intOf p).toNat)
  case atStart => exact ⟨i, rfl, Nat.le_refl _, hi, hR, rfl⟩
  case round =>
    clear hR HS
    obtain ⟨k, rfl, hik, hk, HR, rfl⟩ := hrel
    by_cases hend : k = T.size
    · have g1 : decide ((k : Int) < (T.size : Int)) = false := decide_eq_false (by omega)
      have g1' : decide (k < T.size) = false := decide_eq_false (by omega)
      have hD : T.data.toList.drop k = R := by
        have := HR.out
        rw [hend, ← llen, List.drop_length] at this
        rw [hend, ← llen, List.drop_length, ← this]; rfl
      clear hend
      go_wp2_with fail
      go_ret
      exact ⟨⟨k, rfl, hik, hk, hD⟩, rfl⟩
    · have hkl : k < T.size := by omega
      clear hend
      have g1 : decide ((k : Int) < (T.size : Int)) = true := decide_eq_true (by omega)
      have hki : (k : Int) < T.size := by omega
      have hdg := drop_get T k hkl
      have hx := hix T[k]
      have hgd := bl5_is T[k]
      generalize Lib.indexByte [32, 9, 10, 13, 35] T[k] = q at *
      cases hb : (isBl T[k] || (T[k] == 35)) with
      | false =>
        rw [hb] at hgd
        have hD : T.data.toList.drop k = R := by rw [← HR.out]; exact (skip_idem _ _ _ hdg hb).symm
        clear hb hdg HR
        go_wp2_with (go_at_call 32; refine (hx _).mono ?_; rintro e w2 ⟨rfl, rfl⟩)
        go_ret
        exact ⟨⟨k, rfl, hik, hk, hD⟩, rfl⟩
      | true =>
        rw [hb] at hgd
        by_cases h35 : T[k] = 35
        · have g35 : ((T[k].toNat : Int) == 35) = true := by rw [h35]; rfl
          have HD : Hid (skip ((T.data.toList.drop k).dropWhile (· != 10)) = R) := by
            rw [Hid, ← HR.out, hdg, h35, skip35]
          have hne : T[k] ≠ 10 := by rw [h35]; decide
          clear hb hdg HR h35
          go_wp2_with (go_at_call 32; refine (hx _).mono ?_; rintro e w2 ⟨rfl, rfl⟩)
          obtain ⟨wo, rfl⟩ : ∃ wo : World, wo = w2 := ⟨_, rfl⟩
          go_loopw [1] (fun p wr => ∃ j : Nat, p = .int .i64 j ∧ k ≤ j ∧ j ≤ T.size ∧ Hid (skip ((T.data.toList.drop j).dropWhile (· != 10)) = R) ∧ wr = wo) (fun p _ => T.size - (intOf p).toNat)
          case atStart => exact ⟨k, rfl, Nat.le_refl _, hk, HD, rfl⟩
          case round =>
            clear HD hx hix hgd
            obtain ⟨j, rfl, hkj, hj, HR, rfl⟩ := hrel
            by_cases hend : j = T.size
            · have g2 : decide ((j : Int) < (T.size : Int)) = false := decide_eq_false (by omega)
              have g2' : decide (j < T.size) = false := decide_eq_false (by omega)
              have HN : Hid (skip (T.data.toList.drop j) = R) := by
                have := HR.out
                rw [hend, ← llen, List.drop_length] at this
                rw [Hid, hend, ← llen, List.drop_length]; exact this
              go_wp2_with fail
              go_roundw
              case measure => simp [intOf]; omega
              case rel => exact ⟨j, rfl, by omega, hj, HN, by first | rfl | trivial⟩
            · have hjl : j < T.size := by omega
              have g2 : decide ((j : Int) < (T.size : Int)) = true := decide_eq_true (by omega)
              have hji : (j : Int) < T.size := by omega
              have hdj := drop_get T j hjl
              clear hend
              by_cases h10 : T[j] = 10
              · have hjk : j ≠ k := by rintro rfl; exact hne h10
                have g10 : ((T[j].toNat : Int) != 10) = false := by rw [h10]; rfl
                have HN : Hid (skip (T.data.toList.drop j) = R) := by
                  have := HR.out
                  rw [hdj, List.dropWhile_cons, h10] at this
                  rw [Hid, hdj, h10]; exact this
                clear h10 HR hdj
                go_wp2_with fail
                go_roundw
                case measure => simp [intOf]; omega
                case rel => exact ⟨j, rfl, by omega, hj, HN, by first | rfl | trivial⟩
              · have g10 : ((T[j].toNat : Int) != 10) = true := by
                  rw [bne_iff_ne]; intro e; exact h10 (UInt8.toNat_inj.1 (by show T[j].toNat = 10; omega))
                have HN : Hid (skip ((T.data.toList.drop (j + 1)).dropWhile (· != 10)) = R) := by
                  have := HR.out
                  rw [hdj, List.dropWhile_cons, if_pos (by simpa using h10)] at this
                  exact this
                clear h10 HR hdj
                go_wp2_with fail
                go_roundw
                case measure => simp [intOf]; omega
                case rel => exact ⟨j + 1, by go_num, by omega, by omega, HN, by first | rfl | trivial⟩
        · have hbl : isBl T[k] = true := by simpa [h35] using hb
          have g35 : ((T[k].toNat : Int) == 35) = false := by
            rw [beq_eq_false_iff_ne]; intro e; exact h35 (UInt8.toNat_inj.1 (by show T[k].toNat = 35; omega))
          have HN : Hid (skip (T.data.toList.drop (k + 1)) = R) := by
            rw [Hid, ← HR.out, hdg, skip_blank _ _ hbl]
          clear hb hdg HR h35 hbl
          go_wp2_with (go_at_call 32; refine (hx _).mono ?_; rintro e w2 ⟨rfl, rfl⟩)
          go_roundw
          case measure => simp [intOf]; omega
          case rel => exact ⟨k + 1, by go_num, by omega, by omega, HN, by first | rfl | trivial⟩
end Go.Proofs.YtbeohmcmphebhaaGreatDoor
namespace Go.Proofs.YtbeohmcmphebhaaGreatDoor
open Go.RowKit
set_option linter.unusedVariables false
/-- What reading does. -/
def PR (T : ByteArray) (B : Nat) (w : World) (R : Rs) (e : Ending) (w' : World) : Prop :=
  match R with
  | .ok x => Says w.heap.size w' x.1 e ∧ BoxN w' B 89 (pcells T x.2) ∧ w.grownBy w' (some B)
  | .error s => e = thrown T.size s ∧ w.grownBy w' (some B)
def Does (T : ByteArray) (B f n : Nat) (fn : Tk → Rs) : Prop := ∀ (t : Tk) (w : World), t.of T.data.toList → t.s.length < n → BoxN w B 89 (pcells T t) →
  Calls Tryz.prog f #[.pointer (some ⟨B, 0, none⟩)] w fun e w' => PR T B w (fn t) e w'
def kcells (l : List Ex) : List Value := l.flatMap fun x => x.cells.toList
theorem kcells_len : ∀ l : List Ex, (kcells l).length = l.length * 7
  | [] => rfl
  | x :: r => by rw [show kcells (x :: r) = x.cells.toList ++ kcells r from rfl, List.length_append, kcells_len r, List.length_cons]; show 7 + _ = _; omega
theorem kcells_at : ∀ (l : List Ex) (i j : Nat) (x : Ex), l[i]? = some x → j < 7 → (kcells l)[i * 7 + j]? = x.cells[j]?
  | [], i, j, x, h, _ => by simp at h
  | y :: r, 0, j, x, h, hj => by
    simp at h; subst h
    rw [show kcells (y :: r) = y.cells.toList ++ kcells r from rfl, Nat.zero_mul, Nat.zero_add, List.getElem?_append_left (by show j < 7; exact hj), Array.getElem?_toList]
  | y :: r, i + 1, j, x, h, hj => by
    rw [show kcells (y :: r) = y.cells.toList ++ kcells r from rfl, List.getElem?_append_right (by show 7 ≤ _; omega), show (i + 1) * 7 + j - y.cells.toList.length = i * 7 + j from by show _ - 7 = _; omega]
    exact kcells_at r i j x (by simpa using h) hj
theorem kcells_app (l : List Ex) (x : Ex) : kcells (l ++ [x]) = kcells l ++ x.cells.toList := by simp [kcells]
theorem ex_one (x : Ex) : ∀ u ∈ x.cells.toList, u.oneCell' = true := by
  intro u hu
  simp [Ex.cells] at hu
  rcases hu with rfl | rfl | rfl | rfl | rfl | rfl | rfl <;> rfl
/-- Where a loop over kids stands. -/
structure Lp (T : ByteArray) (B : Nat) (w wr : World) (g cap : Nat) (l : List Ex) (t : Tk) : Prop where
  own : wr.ownsRow (w.heap.size + 1) 43 7 (.slice (some ⟨g, 0, none⟩) l.length cap) l.length (kcells l)
  ou : ∀ x ∈ l, x.Ou (fun b => w.heap.size + 1 ≤ b ∧ b ≠ g) wr
  box : BoxN wr B 89 (pcells T t)
  res : BoxN wr w.heap.size 43 z7
  gr : w.grownBy wr (some B)
  lt : B < w.heap.size
  gl : w.heap.size + 1 ≤ g ∧ g < wr.heap.size
theorem own_gr {w w' : World} {base g n cap : Nat} {xs : List Value} {row : Option Nat} (h : w.ownsRow base 43 7 (.slice (some ⟨g, 0, none⟩) n cap) n xs) (hg : w.grownBy w' row) (hr : some g ≠ row) : w'.ownsRow base 43 7 (.slice (some ⟨g, 0, none⟩) n cap) n xs := by
  obtain ⟨h1, h2⟩ := h
  refine ⟨h1, ?_⟩
  rcases h2 with ⟨h2, _⟩ | ⟨g', cap', cur, hv, hb, hh, r⟩
  · cases h2
  · refine Or.inr ⟨g', cap', cur, hv, hb, ?_, r⟩
    have e : g = g' := by cases hv; rfl
    subst e
    have hlt : g < w.heap.size := (Array.getElem?_eq_some_iff.1 hh).1
    rw [hg.block g hlt hr]; exact hh
theorem Lp.call {T : ByteArray} {B : Nat} {w wr w1 : World} {g cap : Nat} {l : List Ex} {t u : Tk} (h : Lp T B w wr g cap l t) (hg : wr.grownBy w1 (some B)) (hb : BoxN w1 B 89 (pcells T u)) : Lp T B w w1 g cap l u where
  own := own_gr h.own hg (fun e => by cases e; have := h.gl; have := h.lt; omega)
  ou := fun x hx => (h.ou x hx).gr hg (fun b hb _ => ⟨fun e => by cases e; have := h.lt; omega, hb⟩)
  box := hb
  res := h.res.kept hg (fun e => by cases e; have := h.lt; omega)
  gr := gr_trans h.gr hg
  lt := h.lt
  gl := ⟨h.gl.1, Nat.lt_of_lt_of_le h.gl.2 hg.size⟩
theorem Lp.push {T : ByteArray} {B : Nat} {w w1 w3 : World} {g cap g3 cap3 N : Nat} {l : List Ex} {y : Ex} {t : Tk} (h : Lp T B w w1 g cap l t) (hN : g < N) (hy : y.Ou (N ≤ ·) w1)
    (hown : w3.ownsRow (w.heap.size + 1) 43 7 (.slice (some ⟨g3, 0, none⟩) (l.length + 1) cap3) (l.length + 1) (kcells l ++ y.cells.toList)) (hg : (w1.alloc (.cells y.cells 43)).grownBy w3 (some g)) (h3 : g3 = g ∨ g3 = w1.heap.size + 1) :
    Lp T B w w3 g3 cap3 (l ++ [y]) t := by
  have hgl := h.gl
  have hlt := h.lt
  have hg0 : w1.grownBy w3 (some g) := grown_alloc _ hg
  have hsz := hg.size
  simp at hsz
  refine ⟨by rw [kcells_app]; simpa using hown, fun x hx => ?_, h.box.kept hg0 (fun e => by cases e; omega), h.res.kept hg0 (fun e => by cases e; omega), ?_, hlt, ?_⟩
  · rcases List.mem_append.1 hx with hx | hx
    · refine (h.ou x hx).gr hg0 (fun b hb hlt => ⟨fun e => by cases e; exact hb.2 rfl, hb.1, ?_⟩)
      rcases h3 with rfl | rfl
      · exact hb.2
      · omega
    · rw [List.mem_singleton.1 hx]
      refine hy.gr hg0 (fun b hb hlt => ⟨fun e => by cases e; omega, by omega, ?_⟩)
      rcases h3 with rfl | rfl
      · omega
      · omega
  · exact gr_own h.gr hg0 (by omega)
  · obtain ⟨g', cap', hv, hb, hgl'⟩ := World.ownsRow.form hown (by omega)
    cases hv
    exact ⟨hb, hgl'⟩
theorem Lp.kl {T : ByteArray} {B : Nat} {w wr : World} {g cap : Nat} {l : List Ex} {t : Tk} (h : Lp T B w wr g cap l t) (hl : l.length ≤ 2000000) : KL (w.heap.size + 1) wr g cap l := by
  refine ⟨by have := h.gl; omega, hl, fun j x hx => ⟨fun m hm => ?_, (h.ou x (List.mem_of_getElem? hx)).gr (gr_refl 0 wr) (fun b hb _ => ⟨?_, hb.1⟩)⟩⟩
  · obtain ⟨v, hv⟩ := cells7 x m hm
    have h1 := kcells_at l j m x hx hm
    rw [hv] at h1 ⊢
    have := World.ownsRow.cells h.own (g := g) rfl _ _ h1
    rwa [Addr.add_lit, Nat.zero_add] at this
  · have := h.gl; have := h.lt
    intro e; cases e; omega
theorem Lp.start {T : ByteArray} {B : Nat} {w w1 : World} {y : Ex} {t : Tk} (hB : B < w.heap.size) (hg : (w.alloc (.cells z7 43)).grownBy w1 (some B)) (hb : BoxN w1 B 89 (pcells T t)) (hy : y.Ou ((w.alloc (.cells z7 43)).heap.size ≤ ·) w1) :
    Lp T B w (w1.alloc (.cells y.cells 43)) w1.heap.size 1 [y] t := by
  have hsz := hg.size
  simp at hsz
  have hx := (BoxN.new w 43 z7).kept hg (fun e => by cases e; omega)
  refine ⟨?_, fun x hx => ?_, hb.alloc _, hx.alloc _, ?_, hB, by omega, by simp⟩
  · have := World.ownsRow_lit (base := w.heap.size + 1) (e := 43) (size := 7) w1 y.cells 1 (by omega) (by unfold maxLen; omega) rfl
    simpa [kcells] using this
  · rw [List.mem_singleton.1 hx]
    refine hy.gr (World.grownBy_alloc w1 (.cells y.cells 43) none) (fun b hb hlt => ⟨by simp, ?_, by omega⟩)
    simp at hb; omega
  · exact gr_alloc (gr_trans (gr_alloc (gr_refl B w) _) hg) _
theorem Tryz.infoX : (Tryz.prog.info? 43).map (fun i => (i.zero, i.size, i.bytes)) = some (some (.agg z7), 7, 80) := by kernel_rfl
end Go.Proofs.YtbeohmcmphebhaaGreatDoor
namespace Go.Proofs.YtbeohmcmphebhaaGreatDoor
open Go.RowKit
set_option linter.unusedVariables false
theorem wpList_app_ex {ops : Array Oper} {rest : List Oper} {o : Oper} {a : Act} {Q : Exit → Act → World → Prop} (hgd : o.guard = none) (s x : Operand)
    (ho : o.op = .call { callee := .builtin .append, args := #[s, x], argTypes := #[41, 41] }) {T : ByteArray} {B : Nat} {w w1 : World} {g cap N : Nat} {l : List Ex} {t : Tk} {y : Ex} (h : Lp T B w w1 g cap l t)
    (hs : a.eval s = .slice (some ⟨g, 0, none⟩) l.length cap) (hx : a.eval x = .slice (some ⟨w1.heap.size, 0, none⟩) 1 1) (hN : g < N) (hy : y.Ou (N ≤ ·) w1) (hl : l.length ≤ 2000000)
    (hK : ∀ g3 cap3 w3, Lp T B w w3 g3 cap3 (l ++ [y]) t → wpList Tryz.prog ops Q rest (a.put o.dst (.slice (some ⟨g3, 0, none⟩) (l.length + 1) cap3)) w3) :
    wpList Tryz.prog ops Q (o :: rest) a (w1.alloc (.cells #[.int .i64 y.k, .int .u64 (wd y.S 0), .int .u64 (wd y.S 1), .int .u64 (wd y.S 2), .int .u64 (wd y.S 3), .string y.t, .slice y.a y.kids.length y.c] 43)) := by
  obtain ⟨i0, hi, hz0, hz1, hz2⟩ := info_parts Tryz.infoX
  have hgl := h.gl
  have h1 := own_gr h.own (World.grownBy_alloc w1 (.cells y.cells 43) none) (by simp)
  have hnews := World.news_of_block (World.alloc_heap_new w1 (.cells y.cells 43))
  refine wpList_append_lies _ hgd s x 41 ho (w.heap.size + 1) 43 i0 (.agg z7) 7 80 Tryz.underlying41 hi hz0 hz1 hz2 rfl (by decide) _ l.length (kcells l) hs h1 ⟨w1.heap.size, 0, none⟩ 1 1 y.cells.toList hx rfl hnews (ex_one y) (by omega) (by unfold maxLen; omega) (by omega) (by simp; omega) (w1.heap.size + 1) (by simp) ?_
  intro g3 cap3 w3 hown hgr hor _
  refine hK g3 cap3 w3 (h.push hN hy hown hgr ?_)
  rcases hor with e | e
  · left; cases e; rfl
  · exact .inr e
set_option maxRecDepth 20000 in
set_option maxHeartbeats 4000000 in
theorem seq_does (T : ByteArray) (B n : Nat) (pre : Tk → Rs) (hT : T.size ≤ 1000000) (hg : Goes T.data.toList n pre) (hd : Does T B 108 n pre) : Does T B 94 n (seqP pre) := by
  intro t w ht hn hB
  have hBl := hB.lt
  have hsl := ht.2.1.length_le
  rw [llen] at hsl
  have h1 := hd t (w.alloc (.cells z7 43)) ht hn (hB.alloc _)
  have hfine := hg t ht hn
  unfold seqP
  have HG : Hid (∀ w1, (w.alloc (.cells z7 43)).grownBy w1 (some B) → w.grownBy w1 (some B)) := fun w1 h => gr_trans (gr_alloc (gr_refl B w) _) h
  cases hp : pre t with
  | error s =>
    rw [hp] at h1
    rw [thn_error]
    unfold PR at h1 ⊢
    simp only at h1 ⊢
    unfold thrown at h1
    rw [z7_eq] at h1
    clear hfine hp hd hg ht
    go_enter Tryz.func94, Tryz.ntmps94
    go_wp2_with (go_at_call 108; refine h1.mono ?_; rintro e w1 ⟨rfl, hg1⟩; rw [← z7_eq] at hg1)
    exact ⟨rfl, rfl, HG.out _ hg1⟩
  | ok x =>
    rw [hp] at h1 hfine
    rw [thn_ok]
    unfold PR at h1
    simp only at h1
    unfold Says at h1
    rw [z7_eq] at h1
    obtain ⟨hx1, hx2, hx3⟩ := hfine
    generalize hR : seqL pre x.2.s.length [x.1] x.2 = R
    have HR : Hid (seqL pre x.2.s.length [x.1] x.2 = R) := hR
    have HX : Hid (x.2.of T.data.toList ∧ x.2.s.length < t.s.length ∧ t.s.length < n ∧ t.s.length ≤ T.size ∧ Bare x.1 ∧ Goes T.data.toList n pre ∧ Does T B 108 n pre) := ⟨hx1, hx2, hn, hsl, hx3, hg, hd⟩
    clear hx1 hx2 hx3 hp hn hg hd ht hsl hR hB
    go_enter Tryz.func94, Tryz.ntmps94
    go_wp2_with (go_at_call 108; refine h1.mono ?_; rintro e w1 ⟨⟨y, rfl, hye, hyo⟩, hb1, hg1⟩; rw [← z7_eq] at hg1 hyo; have L0 := Lp.start hBl hg1 hb1 hyo; rw [cells_eq] at L0; clear hg1 hb1 hyo h1)
    go_loopg [3] x.2.s.length (fun g v wr => ∃ (gb cap : Nat) (l : List Ex) (u : Tk), v = .slice (some ⟨gb, 0, none⟩) l.length cap ∧ Hid (Lp T B w wr gb cap l u) ∧ Hid (u.of T.data.toList ∧ u.s.length ≤ g ∧ u.s.length < n ∧ 1 ≤ l.length ∧ l.length + u.s.length ≤ T.size + 1 ∧ seqL pre g (l.map Ex.er) u = R ∧ ∀ z ∈ l.map Ex.er, Bare z))
    case atStart =>
      refine ⟨w1.heap.size, 1, [y], x.2, rfl, L0, HX.out.1, Nat.le_refl _, by have := HX.out; omega, by simp, by have := HX.out; simp; omega, ?_, ?_⟩
      · rw [← HR.out, ← hye]; rfl
      · intro z hz; simp at hz; rw [hz, hye]; exact HX.out.2.2.2.2.1
    case round =>
      clear L0 HR hye
      obtain ⟨gb, cap, l, u, rfl, HL, HU⟩ := hrel
      have hcb := HL.out.box.cell
      rw [pcells_eq] at hcb
      have hbc : ∀ W, _ := fun W => begins_any u.k W
      have hll : l.length ≤ 2000000 := by have := HU.out; omega
      cases hbg : begins u.k with
      | true =>
        rw [hbg] at hbc
        have hu0 := begins_ne hbg
        cases gk with
        | zero =>
          exfalso
          have h0 : u.s = [] := List.eq_nil_of_length_eq_zero (by have := HU.out; omega)
          have h2 := (tokS_end u.s).2 h0
          rw [← HU.out.1.1] at h2
          exact hu0 h2
        | succ g =>
          have hpre := HX.out.2.2.2.2.2.2 u wr HU.out.1 HU.out.2.2.1 HL.out.box
          have hfin := HX.out.2.2.2.2.2.1 u HU.out.1 HU.out.2.2.1
          have hstep : Hid (thn (pre u) (fun x => seqL pre g (l.map Ex.er ++ [x.1]) x.2) = R) := by
            have := HU.out.2.2.2.2.2.1
            rw [seqL, if_pos hbg] at this
            exact this
          clear hbg hu0
          cases hp : pre u with
          | error s =>
            have hRe : R = .error s := by have := hstep.out; rw [hp, thn_error] at this; exact this.symm
            subst hRe
            rw [hp] at hpre
            unfold PR at hpre
            simp only at hpre
            unfold thrown at hpre
            clear hfin hp hstep
            go_wp2_with (first
              | (go_at_call 109; refine (hbc _).mono ?_; rintro e w2 ⟨rfl, rfl⟩)
              | (go_at_call 108; refine hpre.mono ?_; rintro e w3 ⟨rfl, hg3⟩))
            exact ⟨rfl, rfl, gr_trans HL.out.gr hg3⟩
          | ok z =>
            have hst2 : Hid (seqL pre g (l.map Ex.er ++ [z.1]) z.2 = R) := by have := hstep.out; rw [hp, thn_ok] at this; exact this
            rw [hp] at hpre hfin
            unfold PR at hpre
            simp only at hpre
            unfold Says at hpre
            have HF : Hid (Fine T.data.toList u.s.length (.ok z)) := hfin
            clear hfin hp hstep
            go_wp2_with (first
              | (go_at_call 109; refine (hbc _).mono ?_; rintro e w2 ⟨rfl, rfl⟩)
              | (go_at_call 108; refine hpre.mono ?_; rintro e w3 ⟨⟨y, rfl, hye, hyo⟩, hb3, hg3⟩; have L3 : Hid _ := HL.out.call hg3 hb3; have HYO : Hid _ := hyo; clear hyo hb3 hg3 hpre)
              | (at_builtin; refine wpList_app_ex rfl _ _ rfl L3.out rfl rfl HL.out.gl.2 HYO.out hll ?_; intro g4 cap4 w4 L4))
            go_roundg g
            case measure => omega
            case rel =>
              refine ⟨g4, cap4, l ++ [y], z.2, by simp, L4, HF.out.1, ?_, ?_, by simp, ?_, ?_, ?_⟩
              · have h1 := HF.out.2.1; have h2 := HU.out.2.1; omega
              · have h1 := HF.out.2.1; have h2 := HU.out.2.2.1; omega
              · have h1 := HF.out.2.1; have h2 := HU.out.2.2.2.2.1; simp; omega
              · rw [List.map_append, List.map_cons, List.map_nil, hye]; exact hst2.out
              · intro q hq
                rw [List.map_append, List.map_cons, List.map_nil, hye] at hq
                rcases List.mem_append.1 hq with hq | hq
                · exact HU.out.2.2.2.2.2.2 q hq
                · rw [List.mem_singleton.1 hq]; exact HF.out.2.2
      | false =>
        rw [hbg] at hbc
        have hRe : R = .ok (gath 5 (l.map Ex.er), u) := by
          have := HU.out.2.2.2.2.2.1
          cases gk with
          | zero => exact this.symm
          | succ g => rw [seqL, hbg] at this; exact this.symm
        subst hRe
        have htg := together_any (w.heap.size + 1) 5 gb cap l wr (by have := HL.out.res.lt; omega) (HL.out.kl hll) HU.out.2.2.2.1
        unfold Says at htg
        clear hbg
        go_wp2_with (first
          | (go_at_call 109; refine (hbc _).mono ?_; rintro e w2 ⟨rfl, rfl⟩)
          | (go_at_call 95; refine htg.mono ?_; rintro e w3 ⟨⟨y, rfl, hye, hyo⟩, hb3⟩; have hb3' : Hid _ := hb3; have HYO : Hid _ := hyo; clear hyo hb3 htg)
          | (refine wpList_store_box rfl 43 _ _ rfl w.heap.size _ rfl rfl z7 (HL.out.res.below hb3'.out HL.out.res.lt) Tryz.info43 rfl (by simp [Value.oneCell']) ?_; intro w5 hx5 hg5; have hc := hx5.cell))
        refine bodyPost_ret (by simp [results, Tryz.results94, go_sem, hc]) rfl ⟨⟨y, rfl, hye, ?_⟩, ?_, ?_⟩
        · exact HYO.out.gr hg5 (fun b hb _ => ⟨fun e => by cases e; omega, by omega⟩)
        · exact (HL.out.box.below hb3'.out HL.out.box.lt).kept hg5 (fun e => by cases e; omega)
        · exact gr_own (gr_below HL.out.gr hb3'.out) hg5 (Nat.le_refl _)
end Go.Proofs.YtbeohmcmphebhaaGreatDoor
namespace Go.Proofs.YtbeohmcmphebhaaGreatDoor
open Go.RowKit
set_option linter.unusedVariables false
theorem eq_int {c : UInt8} {k : Nat} (h : c = UInt8.ofNat k) (hk : k < 256) : ((c.toNat : Int) == (k : Int)) = true := by
  rw [beq_iff_eq, h]; simp; omega
theorem altL_no {pre : Tk → Rs} {m : Nat} {l : List Ex} {u : Tk} (h : ¬ u.k = 47) : altL pre m l u = .ok (gath 6 l, u) := by
  cases m with
  | zero => rfl
  | succ g => rw [altL, if_neg h]
set_option maxRecDepth 20000 in
set_option maxHeartbeats 4000000 in
theorem alt_does (T : ByteArray) (B n : Nat) (pre : Tk → Rs) (hT : T.size ≤ 1000000) (hg : Goes T.data.toList n pre) (hd : Does T B 94 n (seqP pre)) : Does T B 75 n (altP pre) := by
  intro t w ht hn hB
  have hBl := hB.lt
  have hsl := ht.2.1.length_le
  rw [llen] at hsl
  have hg' := seqP_fine hg
  have h1 := hd t (w.alloc (.cells z7 43)) ht hn (hB.alloc _)
  have hfine := hg' t ht hn
  unfold altP
  have HG : Hid (∀ w1, (w.alloc (.cells z7 43)).grownBy w1 (some B) → w.grownBy w1 (some B)) := fun w1 h => gr_trans (gr_alloc (gr_refl B w) _) h
  cases hp : seqP pre t with
  | error s =>
    rw [hp] at h1
    rw [thn_error]
    unfold PR at h1 ⊢
    simp only at h1 ⊢
    unfold thrown at h1
    rw [z7_eq] at h1
    clear hfine hp hd hg hg' ht
    go_enter Tryz.func75, Tryz.ntmps75
    go_wp2_with (go_at_call 94; refine h1.mono ?_; rintro e w1 ⟨rfl, hg1⟩; rw [← z7_eq] at hg1)
    exact ⟨rfl, rfl, HG.out _ hg1⟩
  | ok x =>
    rw [hp] at h1 hfine
    rw [thn_ok]
    unfold PR at h1
    simp only at h1
    unfold Says at h1
    rw [z7_eq] at h1
    obtain ⟨hx1, hx2, hx3⟩ := hfine
    generalize hR : altL pre x.2.s.length [x.1] x.2 = R
    have HR : Hid (altL pre x.2.s.length [x.1] x.2 = R) := hR
    have HX : Hid (x.2.of T.data.toList ∧ x.2.s.length < t.s.length ∧ t.s.length < n ∧ t.s.length ≤ T.size ∧ Bare x.1 ∧ Goes T.data.toList n (seqP pre) ∧ Does T B 94 n (seqP pre)) := ⟨hx1, hx2, hn, hsl, hx3, hg', hd⟩
    clear hx1 hx2 hx3 hp hn hg hd ht hsl hR hB hg'
    go_enter Tryz.func75, Tryz.ntmps75
    go_wp2_with (go_at_call 94; refine h1.mono ?_; rintro e w1 ⟨⟨y, rfl, hye, hyo⟩, hb1, hg1⟩; rw [← z7_eq] at hg1 hyo; have L0 := Lp.start hBl hg1 hb1 hyo; rw [cells_eq] at L0; clear hg1 hb1 hyo h1)
    go_loopg [3] x.2.s.length (fun g v wr => ∃ (gb cap : Nat) (l : List Ex) (u : Tk), v = .slice (some ⟨gb, 0, none⟩) l.length cap ∧ Hid (Lp T B w wr gb cap l u) ∧ Hid (u.of T.data.toList ∧ u.s.length ≤ g ∧ u.s.length < n ∧ 1 ≤ l.length ∧ l.length + u.s.length ≤ T.size + 1 ∧ altL pre g (l.map Ex.er) u = R ∧ ∀ z ∈ l.map Ex.er, Bare z))
    case atStart =>
      refine ⟨w1.heap.size, 1, [y], x.2, rfl, L0, HX.out.1, Nat.le_refl _, by have := HX.out; omega, by simp, by have := HX.out; simp; omega, ?_, ?_⟩
      · rw [← HR.out, ← hye]; rfl
      · intro z hz; simp at hz; rw [hz, hye]; exact HX.out.2.2.2.2.1
    case round =>
      clear L0 HR hye
      obtain ⟨gb, cap, l, u, rfl, HL, HU⟩ := hrel
      have hcb := HL.out.box.cell
      rw [pcells_eq] at hcb
      have hll : l.length ≤ 2000000 := by have := HU.out; omega
      by_cases hbg : u.k = 47
      · have hu0 : u.k ≠ 0 := by rw [hbg]; decide
        have g47 : ((u.k.toNat : Int) == 47) = true := eq_int hbg (by decide)
        cases gk with
        | zero =>
          exfalso
          have h0 : u.s = [] := List.eq_nil_of_length_eq_zero (by have := HU.out; omega)
          have h2 := (tokS_end u.s).2 h0
          rw [← HU.out.1.1] at h2
          exact hu0 h2
        | succ g =>
          have htk := take_any T B u wr (by omega) HU.out.1 HL.out.box
          have htf := take_fine HU.out.1 hu0
          have hstep : Hid (thn (take u) (fun v => thn (seqP pre v) fun x => altL pre g (l.map Ex.er ++ [x.1]) x.2) = R) := by
            have := HU.out.2.2.2.2.2.1
            rw [altL, if_pos hbg] at this
            exact this
          clear hbg hu0
          cases hv : take u with
          | error s =>
            have hRe : R = .error s := by have := hstep.out; rw [hv, thn_error] at this; exact this.symm
            subst hRe
            rw [hv] at htk
            unfold TakeR at htk
            simp only at htk
            unfold thrown at htk
            clear htf hv hstep
            go_wp2_with (go_at_call 48; refine htk.mono ?_; rintro e w3 ⟨rfl, hg3⟩)
            exact ⟨rfl, rfl, gr_trans HL.out.gr hg3⟩
          | ok v =>
            rw [hv] at htk htf
            simp only at htf
            unfold TakeR at htk
            simp only at htk
            have hst1 : Hid (thn (seqP pre v) (fun x => altL pre g (l.map Ex.er ++ [x.1]) x.2) = R) := by have := hstep.out; rw [hv, thn_ok] at this; exact this
            have hvn : v.s.length < n := by have := HU.out.2.2.1; omega
            have hpre : ∀ W, BoxN W B 89 (pcells T v) → _ := fun W hW => HX.out.2.2.2.2.2.2 v W htf.1 hvn hW
            have hfin := HX.out.2.2.2.2.2.1 v htf.1 hvn
            have HV : Hid (v.of T.data.toList ∧ v.s.length < u.s.length) := htf
            clear hv hstep htf hvn
            cases hp : seqP pre v with
            | error s =>
              have hRe : R = .error s := by have := hst1.out; rw [hp, thn_error] at this; exact this.symm
              subst hRe
              rw [hp] at hpre
              unfold PR at hpre
              simp only at hpre
              unfold thrown at hpre
              clear hfin hp hst1
              go_wp2_with (first
                | (go_at_call 48; refine htk.mono ?_; rintro e w2 ⟨rfl, hb2, hg2⟩; have hb2' : Hid _ := hb2; have hg2' : Hid _ := hg2; clear hb2 hg2 htk)
                | (go_at_call 94; refine (hpre _ hb2'.out).mono ?_; rintro e w3 ⟨rfl, hg3⟩))
              exact ⟨rfl, rfl, gr_trans (gr_trans HL.out.gr hg2'.out) hg3⟩
            | ok z =>
              have hst2 : Hid (altL pre g (l.map Ex.er ++ [z.1]) z.2 = R) := by have := hst1.out; rw [hp, thn_ok] at this; exact this
              rw [hp] at hpre hfin
              unfold PR at hpre
              simp only at hpre
              unfold Says at hpre
              have HF : Hid (Fine T.data.toList v.s.length (.ok z)) := hfin
              clear hfin hp hst1
              go_wp2_with (first
                | (go_at_call 48; refine htk.mono ?_; rintro e w2 ⟨rfl, hb2, hg2⟩; have hb2' : Hid _ := hb2; have L2 : Hid _ := HL.out.call hg2 hb2; clear hb2 hg2 htk)
                | (go_at_call 94; refine (hpre _ hb2'.out).mono ?_; rintro e w3 ⟨⟨y, rfl, hye, hyo⟩, hb3, hg3⟩; have L3 : Hid _ := L2.out.call hg3 hb3; have HYO : Hid _ := hyo; clear hyo hb3 hg3 hpre)
                | (at_builtin; refine wpList_app_ex rfl _ _ rfl L3.out rfl rfl L2.out.gl.2 HYO.out hll ?_; intro g4 cap4 w4 L4))
              go_roundg g
              case measure => omega
              case rel =>
                refine ⟨g4, cap4, l ++ [y], z.2, by simp, L4, HF.out.1, ?_, ?_, by simp, ?_, ?_, ?_⟩
                · have h1 := HF.out.2.1; have h2 := HU.out.2.1; have h3 := HV.out.2; omega
                · have h1 := HF.out.2.1; have h2 := HU.out.2.2.1; have h3 := HV.out.2; omega
                · have h1 := HF.out.2.1; have h2 := HU.out.2.2.2.2.1; have h3 := HV.out.2; simp; omega
                · rw [List.map_append, List.map_cons, List.map_nil, hye]; exact hst2.out
                · intro q hq
                  rw [List.map_append, List.map_cons, List.map_nil, hye] at hq
                  rcases List.mem_append.1 hq with hq | hq
                  · exact HU.out.2.2.2.2.2.2 q hq
                  · rw [List.mem_singleton.1 hq]; exact HF.out.2.2
      · have g47 : ((u.k.toNat : Int) == 47) = false := ne_int hbg (by decide)
        have hRe : R = .ok (gath 6 (l.map Ex.er), u) := by
          have := HU.out.2.2.2.2.2.1
          rw [altL_no hbg] at this; exact this.symm
        subst hRe
        have htg := together_any (w.heap.size + 1) 6 gb cap l wr (by have := HL.out.res.lt; omega) (HL.out.kl hll) HU.out.2.2.2.1
        unfold Says at htg
        clear hbg
        go_wp2_with (first
          | (go_at_call 95; refine htg.mono ?_; rintro e w3 ⟨⟨y, rfl, hye, hyo⟩, hb3⟩; have hb3' : Hid _ := hb3; have HYO : Hid _ := hyo; clear hyo hb3 htg)
          | (refine wpList_store_box rfl 43 _ _ rfl w.heap.size _ rfl rfl z7 (HL.out.res.below hb3'.out HL.out.res.lt) Tryz.info43 rfl (by simp [Value.oneCell']) ?_; intro w5 hx5 hg5; have hc := hx5.cell))
        refine bodyPost_ret (by simp [results, Tryz.results75, go_sem, hc]) rfl ⟨⟨y, rfl, hye, ?_⟩, ?_, ?_⟩
        · exact HYO.out.gr hg5 (fun b hb _ => ⟨fun e => by cases e; omega, by omega⟩)
        · exact (HL.out.box.below hb3'.out HL.out.box.lt).kept hg5 (fun e => by cases e; omega)
        · exact gr_own (gr_below HL.out.gr hb3'.out) hg5 (Nat.le_refl _)
end Go.Proofs.YtbeohmcmphebhaaGreatDoor
namespace Go.Proofs.YtbeohmcmphebhaaGreatDoor
open Go.RowKit
open Ex.Ou (OuL)
set_option linter.unusedVariables false
theorem unl_text (q : UInt8) (g : List UInt8) : ∀ (m : Nat) (rest text : List UInt8) (n : Nat) (x : List UInt8 × Nat), unlF q g m rest text n = some x → x.1.length ≤ text.length + rest.length
  | 0, _, _, _, _, h => by simp [unlF] at h
  | m + 1, [], _, _, _, h => by simp [unlF] at h
  | m + 1, a :: r, text, n, x, h => by
    rw [unlF] at h
    have hs := (signAt_lt g (a :: r)).2
    split at h
    · simp at h; rw [← h]; show text.length ≤ _; omega
    · split at h
      · cases h
      · have := unl_text q g m _ _ _ x h; rw [List.length_drop, List.length_append] at this; simp at this hs ⊢; omega
/-- A leaf has no kids, and no more text than it had bytes. -/
theorem leafAt_t (l : List UInt8) (x : Ex × Nat) (h : leafAt l = some x) : x.1.t.size ≤ l.length ∧ x.1.kids = [] := by
  unfold leafAt at h
  split at h
  · obtain ⟨y, hy, rfl⟩ := Option.map_eq_some_iff.1 h
    show (if y.1 = [] then nd 1 [] else lfT 3 y.1).t.size ≤ _ ∧ (if y.1 = [] then nd 1 [] else lfT 3 y.1).kids = []
    split
    · exact ⟨Nat.zero_le _, rfl⟩
    · refine ⟨?_, rfl⟩
      show (⟨y.1.toArray⟩ : ByteArray).size ≤ _
      rw [mk_size]
      unfold unlit at hy
      cases l with
      | nil => cases hy
      | cons q r =>
        simp only at hy
        split at hy
        · have := unl_text q _ _ _ _ _ y hy; simp at this ⊢; omega
        · cases hy
  · split at h
    · obtain ⟨y, hy, rfl⟩ := Option.map_eq_some_iff.1 h
      exact ⟨Nat.zero_le _, rfl⟩
    · split at h
      · cases h; exact ⟨Nat.zero_le _, rfl⟩
      · split at h
        · cases h
          refine ⟨?_, rfl⟩
          show (⟨(l.takeWhile okc).toArray⟩ : ByteArray).size ≤ _
          rw [mk_size]
          exact (List.takeWhile_prefix _).length_le
        · cases h
theorem tokB_tB (s : List UInt8) : (tokB s).e.t.size ≤ s.length ∧ (tokB s).e.kids = [] := by
  unfold tokB
  split
  · exact ⟨Nat.zero_le _, rfl⟩
  split
  · exact ⟨Nat.zero_le _, rfl⟩
  split
  · exact ⟨Nat.zero_le _, rfl⟩
  split
  · rename_i x hx; exact leafAt_t s x hx
  · exact ⟨Nat.zero_le _, rfl⟩
theorem tokS_t (s : List UInt8) : (tokS s).e.t.size ≤ s.length ∧ (tokS s).e.kids = [] := by unfold tokS; rw [arr_e]; exact tokB_tB s
theorem leaf_ou {P : Nat → Prop} {W : World} (e : Ex) (ht : e.t.size ≤ 140737488355328) (hk : e.kids = []) : e.Ou P W := by
  obtain ⟨k, S, t, a, c, kids⟩ := e
  simp only [Ex.kids] at hk
  subst hk
  rw [Ex.Ou, OuL]
  exact ⟨⟨by simp, ht⟩, trivial⟩
theorem Tk.of.ou {t : Tk} {T : List UInt8} (h : t.of T) (hT : T.length ≤ 1000000) {P : Nat → Prop} {W : World} : t.e.Ou P W := by
  have h1 := tokS_t t.s
  rw [← h.1] at h1
  have := h.2.1.length_le
  exact leaf_ou _ (by omega) h1.2
/-- Where a call stands that has a result to lay. -/
structure Rp (T : ByteArray) (B : Nat) (w wr : World) (t : Tk) : Prop where
  box : BoxN wr B 89 (pcells T t)
  res : BoxN wr w.heap.size 43 z7
  gr : w.grownBy wr (some B)
  lt : B < w.heap.size
theorem Rp.start {T : ByteArray} {B : Nat} {w : World} {t : Tk} (h : BoxN w B 89 (pcells T t)) : Rp T B w (w.alloc (.cells z7 43)) t :=
  ⟨h.alloc _, BoxN.new w 43 z7, gr_alloc (gr_refl B w) _, h.lt⟩
theorem Rp.call {T : ByteArray} {B : Nat} {w wr w1 : World} {t u : Tk} (h : Rp T B w wr t) (hg : wr.grownBy w1 (some B)) (hb : BoxN w1 B 89 (pcells T u)) : Rp T B w w1 u :=
  ⟨hb, h.res.kept hg (fun e => by cases e; have := h.lt; omega), gr_trans h.gr hg, h.lt⟩
theorem Rp.alloc {T : ByteArray} {B : Nat} {w wr : World} {t : Tk} (h : Rp T B w wr t) (o : Obj) : Rp T B w (wr.alloc o) t :=
  ⟨h.box.alloc o, h.res.alloc o, gr_alloc h.gr o, h.lt⟩
theorem Rp.below {T : ByteArray} {B : Nat} {w wr w1 : World} {t : Tk} (h : Rp T B w wr t) (hb : Below wr.heap.size wr w1) : Rp T B w w1 t :=
  ⟨h.box.below hb h.box.lt, h.res.below hb h.res.lt, gr_below h.gr hb, h.lt⟩
theorem Rp.own {T : ByteArray} {B g : Nat} {w wr w1 : World} {t : Tk} (h : Rp T B w wr t) (hg : wr.grownBy w1 (some g)) (hl : w.heap.size < g) : Rp T B w w1 t :=
  ⟨h.box.kept hg (fun e => by cases e; have := h.lt; omega), h.res.kept hg (fun e => by cases e; omega), gr_own h.gr hg (by omega), h.lt⟩
theorem Rp.last {T : ByteArray} {B : Nat} {w wr w5 : World} {t : Tk} (h : Rp T B w wr t) (hg : wr.grownBy w5 (some w.heap.size)) : BoxN w5 B 89 (pcells T t) ∧ w.grownBy w5 (some B) :=
  ⟨h.box.kept hg (fun e => by cases e; have := h.lt; omega), gr_own h.gr hg (Nat.le_refl _)⟩
set_option maxRecDepth 20000 in
set_option maxHeartbeats 4000000 in
theorem prim_leaf (T : ByteArray) (B : Nat) (t : Tk) (w : World) (hT : T.size ≤ 1000000) (ht : t.of T.data.toList) (hB : BoxN w B 89 (pcells T t)) (h1 : t.k = 1) :
    Calls Tryz.prog 123 #[.pointer (some ⟨B, 0, none⟩)] w fun e w' => PR T B w (thn (take t) fun u => .ok (t.e, u)) e w' := by
  have hBl := hB.lt
  have g1 : ((t.k.toNat : Int) == 1) = true := eq_int h1 (by decide)
  have R0 : Hid (Rp T B w (w.alloc (.cells z7 43)) t) := Rp.start hB
  have hcb := R0.out.box.cell
  rw [pcells_eq] at hcb
  have R1 : Hid (Rp T B w ((w.alloc (.cells z7 43)).alloc (.cells t.e.cells 43)) t) := R0.out.alloc _
  have htk := take_any T B t ((w.alloc (.cells z7 43)).alloc (.cells t.e.cells 43)) (by omega) ht R1.out.box
  have HO : Hid (∀ W, t.e.Ou (w.heap.size ≤ ·) W ∧ t.e.er = t.e) := fun W => ⟨ht.ou (by rw [llen]; exact hT), ht.bare⟩
  have bE : Hid (BoxN ((w.alloc (.cells z7 43)).alloc (.cells t.e.cells 43)) (w.heap.size + 1) 43 t.e.cells) := by
    have := BoxN.new (w.alloc (.cells z7 43)) 43 t.e.cells
    rw [show (w.alloc (.cells z7 43)).heap.size = w.heap.size + 1 from by simp] at this
    exact this
  rw [z7_eq] at hcb
  rw [cells_eq, z7_eq] at htk
  clear ht hB h1
  cases hv : take t with
  | error s =>
    rw [hv] at htk
    rw [thn_error]
    unfold TakeR at htk
    simp only at htk
    unfold thrown at htk
    clear hv
    go_enter Tryz.func123, Tryz.ntmps123
    go_wp2_with (go_at_call 48; refine htk.mono ?_; rintro e w3 ⟨rfl, hg3⟩; rw [← cells_eq, ← z7_eq] at hg3)
    exact ⟨rfl, rfl, gr_trans R1.out.gr hg3⟩
  | ok u =>
    rw [hv] at htk
    rw [thn_ok]
    unfold TakeR at htk
    simp only at htk
    clear hv
    go_enter Tryz.func123, Tryz.ntmps123
    go_wp2_with (first
      | (go_at_call 48; refine htk.mono ?_; rintro e w3 ⟨rfl, hb3, hg3⟩; rw [← cells_eq, ← z7_eq] at hg3; have R3 : Hid _ := R1.out.call hg3 hb3; have hce := (bE.out.kept hg3 (fun e => by cases e; omega)).cell; rw [cells_eq] at hce; clear hb3 hg3 htk)
      | (refine wpList_store_box rfl 43 _ _ rfl w.heap.size _ rfl rfl z7 R3.out.res Tryz.info43 rfl (by simp [Value.oneCell']) ?_; intro w5 hx5 hg5; have hc := hx5.cell))
    exact bodyPost_ret (by simp [results, Tryz.results123, go_sem, hc]) rfl ⟨⟨t.e, rfl, (HO.out w5).2, (HO.out w5).1⟩, R3.out.last hg5⟩
end Go.Proofs.YtbeohmcmphebhaaGreatDoor
