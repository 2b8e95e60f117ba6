import Derived.Test.YtbeohmcmphebhaaGreatDoorXQRef
import Derived.Deep.QuietTactic
import Derived.BigQuiet
import Derived.Lib.SmallJoins
import Derived.Test.YtbeohmcmphebhaaGreatDoorXTk
import Derived.Test.YtbeohmcmphebhaaGreatDoorXShelf
import Derived.Deep.WholeRow
import Derived.Lib.AsciiSet
import Derived.Test.YtbeohmcmphebhaaGreatDoorXQClass
namespace Go.Proofs.YtbeohmcmphebhaaGreatDoor
open Go.RowKit
theorem drop_cons (s : ByteArray) (k : Nat) (h : k < s.size) : s.data.toList.drop k = s[k] :: s.data.toList.drop (k + 1) := by
  rw [List.drop_eq_getElem_cons (by simpa using h)]; rfl
theorem unlit_at (g : List UInt8) (s : ByteArray) (h : 0 < s.size) : unlit g s.data.toList = if s[0].toNat = 39 ∨ s[0].toNat = 34 then unl s[0] g (s.data.toList.drop 1) [] 1 else none := by
  obtain ⟨⟨l⟩⟩ := s
  match l, h with
  | [], h => simp [ByteArray.size] at h
  | _ :: _, h => rfl
theorem cut_list (s : ByteArray) (k : Nat) : (s.extract k s.size).data.toList = s.data.toList.drop k := by
  rw [ByteArray.data_extract, Array.toList_extract, List.extract_eq_take_drop, List.take_of_length_le (by rw [List.length_drop, llen]; omega)]
theorem cut_size (s : ByteArray) (k : Nat) : (s.extract k s.size).size ≤ s.size := by
  simp
theorem unl_stop (g : List UInt8) (s : ByteArray) (q : UInt8) (k : Nat) (T : List UInt8) (hk : k < s.size) (h : s[k] = q) : unl q g (s.data.toList.drop k) T k = some (T, k + 1) := by
  rw [drop_cons s k hk, h, unl_end]
theorem unl_none (g : List UInt8) (s : ByteArray) (q : UInt8) (k : Nat) (T : List UInt8) (hk : k < s.size) (h : s[k] ≠ q) (h0 : (signAt g (s.data.toList.drop k)).2 = 0) : unl q g (s.data.toList.drop k) T k = none := by
  rw [drop_cons s k hk] at h0 ⊢
  exact unl_bad _ _ _ _ _ _ h h0
theorem unl_next (g : List UInt8) (s : ByteArray) (q : UInt8) (k : Nat) (T : List UInt8) (hk : k < s.size) (h : s[k] ≠ q) (h0 : (signAt g (s.data.toList.drop k)).2 ≠ 0) :
    unl q g (s.data.toList.drop k) T k = unl q g (s.data.toList.drop (k + (signAt g (s.data.toList.drop k)).2)) (T ++ [UInt8.ofNat (signAt g (s.data.toList.drop k)).1]) (k + (signAt g (s.data.toList.drop k)).2) := by
  have e := drop_cons s k hk
  rw [← List.drop_drop]
  generalize s.data.toList.drop k = D at *
  subst e
  exact unl_on _ _ _ _ _ _ h h0
theorem unl_over (g : List UInt8) (s : ByteArray) (q : UInt8) (k : Nat) (T : List UInt8) (hk : s.size ≤ k) : unl q g (s.data.toList.drop k) T k = none := by
  rw [List.drop_eq_nil_of_le (by rw [llen]; exact hk), unl_nil]
theorem bcs_one (n : Nat) (h : n < 256) : bcs [UInt8.ofNat n] = [.int .u8 (n : Int)] := by
  simp [bcs]; omega
theorem ret_three {a a' : List UInt8} {b b' c c' : Int} (h1 : a = a') (h2 : b = b') (h3 : c = c') : Ending.returned (.tuple #[.string ⟨a.toArray⟩, .int .i64 b, .int .i64 c]) = .returned (.tuple #[.string ⟨a'.toArray⟩, .int .i64 b', .int .i64 c']) := by rw [h1, h2, h3]
theorem uR_none : uT none = [] ∧ uN none = 0 ∧ uE none = 4 := ⟨rfl, rfl, rfl⟩
set_option maxHeartbeats 1000000 in
theorem unlit_any (s : ByteArray) (w : World) (hs : s.size ≤ 50000000) :
    Calls Tryz.prog 118 #[.string s] w fun e w' => e = .returned (.tuple #[.string ⟨(uT (unlit [39, 34, 92] s.data.toList)).toArray⟩, .int .i64 (uN (unlit [39, 34, 92] s.data.toList)), .int .i64 (uE (unlit [39, 34, 92] s.data.toList))]) ∧ Below w.heap.size w w' := by
  obtain ⟨i0, hi, hz0, hz1, hz2⟩ := info_parts Tryz.info5
  by_cases h0 : s.size = 0
  · obtain rfl := empty_of s h0
    go_enter Tryz.func118, Tryz.ntmps118
    go_wp2_with fail
    go_ret3
    exact ⟨rfl, Below.refl _ _⟩
  · have he := nonempty s h0
    have h1 : (0 : Int) < s.size := by omega
    have h1' : 0 < s.size := by omega
    have e1 := unlit_at [39, 34, 92] s h1'
    generalize unlit [39, 34, 92] s.data.toList = R at *
    by_cases hq : s[0].toNat = 39 ∨ s[0].toNat = 34
    · rw [if_pos hq] at e1
      have HR : Hid (R = unl s[0] [39, 34, 92] (s.data.toList.drop 1) [] 1) := e1
      clear e1
      have hor : ((s[0].toNat : Int) != 39) = false ∨ (((s[0].toNat : Int) != 39) = true ∧ ((s[0].toNat : Int) != 34) = false) := by
        by_cases h39 : s[0].toNat = 39
        · left; simp; omega
        · right; simp; omega
      clear hq
      rcases hor with hx | ⟨hx, hy⟩
      all_goals
        go_enter Tryz.func118, Tryz.ntmps118
        go_wp2_with fail
        go_loopw [5, 6, 7, 8] (fun v i _ _ wx => ∃ (k : Nat) (T : List UInt8), i = .int .i64 k ∧ 1 ≤ k ∧ k ≤ s.size ∧ T.length ≤ k ∧ Holds wx w.heap.size v T ∧ Below w.heap.size w wx ∧ R = unl s[0] [39, 34, 92] (s.data.toList.drop k) T k) (fun _ i _ _ _ => s.size - (intOf i).toNat)
        case atStart => exact ⟨1, [], rfl, by omega, by omega, by simp, World.ownsRow_nil _ _ _ _, Below.refl _ _, HR.out⟩
        case round =>
          clear HR
          obtain ⟨k, T, rfl, hk1, hk2, hT, hown, hB, hR⟩ := hrel
          have HR : Hid (R = unl s[0] [39, 34, 92] (s.data.toList.drop k) T k) := hR
          clear hR
          have hsz := hB.size
          have hk0 : (0 : Int) ≤ (k : Int) := by omega
          by_cases hlt : k < s.size
          · have hd : decide ((k : Int) < (s.size : Int)) = true := by simp; omega
            have hd' : decide (k < s.size) = true := by simp; omega
            have hlt' : (k : Int) < (s.size : Int) := by omega
            by_cases hqk : s[k].toNat = s[0].toNat
            · have eR : R = some (T, k + 1) := HR.out.trans (unl_stop _ s s[0] k T hlt (toNat_eq hqk))
              have hne : ((s[k].toNat : Int) != (s[0].toNat : Int)) = false := by simp; omega
              have hkk : ((k : Int) == (s.size : Int)) = false := by simp; omega
              have HE : Hid (R = some (T, k + 1)) := eR
              have hconv := (hown.below (Below.refl _ _)).conv
              clear HR eR hqk
              go_wp2_with fail
              go_quiet (fail)
              have hconv2 : ∀ nq, (convert 53 9 u5).run Tryz.prog (wr.drewN nq) = .ok (.string ⟨T.toArray⟩) (wr.drewN nq) := fun nq => (Holds.below hown (Go.Joins.below_draws _ _ _)).conv
              go_wp2_with fail
              go_ret3
              exact ⟨ret_three (by rw [HE.out]; rfl) (by rw [HE.out]; show (k : Int) + 1 = ((k + 1 : Nat) : Int); omega) (by rw [HE.out]; rfl), hB.trans (Go.Joins.below_draws _ _ _)⟩
            · have hne2 : ((s[k].toNat : Int) != (s[0].toNat : Int)) = true := by simp; omega
              have hneq : s[k] ≠ s[0] := fun e => hqk (by rw [e])
              have hP1 := (signAt_lt [39, 34, 92] (s.data.toList.drop k)).1
              have hP2 := (signAt_lt [39, 34, 92] (s.data.toList.drop k)).2
              rw [List.length_drop, llen] at hP2
              by_cases hz : (signAt [39, 34, 92] (s.data.toList.drop k)).2 = 0
              · have HE : Hid (R = none) := HR.out.trans (unl_none _ s s[0] k T hlt hneq hz)
                clear HR hneq
                generalize hP : signAt [39, 34, 92] (s.data.toList.drop k) = P at *
                have HP : Hid (signAt [39, 34, 92] (s.data.toList.drop k) = P) := hP
                have hx3 : ((P.2 : Int) == 0) = true := by simp; omega
                clear hP hqk hz
                go_wp2_with fail
                go_quiet (fail)
                go_wp2_with fail
                refine (signAt_any (s.extract k s.size) ⟨#[39, 34, 92]⟩ _ (by unfold maxLen; have := cut_size s k; omega)).mono ?_
                rintro e w1 ⟨rfl, n1, rfl⟩
                rw [cut_list s k, show (⟨#[39, 34, 92]⟩ : ByteArray).data.toList = [39, 34, 92] from rfl, HP.out]
                go_wp2_with fail
                go_ret3
                exact ⟨by rw [HE.out] <;> rfl, hB.trans (Go.Joins.below_draws _ _ _)⟩
              · have HE : Hid (R = _) := HR.out.trans (unl_next _ s s[0] k T hlt hneq hz)
                clear HR hneq
                generalize hP : signAt [39, 34, 92] (s.data.toList.drop k) = P at *
                have HP : Hid (signAt [39, 34, 92] (s.data.toList.drop k) = P) := hP
                have hx3 : ((P.2 : Int) == 0) = false := by simp; omega
                clear hP hqk
                go_wp2_with fail
                go_quiet (fail)
                go_wp2_with fail
                refine (signAt_any (s.extract k s.size) ⟨#[39, 34, 92]⟩ _ (by unfold maxLen; have := cut_size s k; omega)).mono ?_
                rintro e w1 ⟨rfl, n1, rfl⟩
                rw [cut_list s k, show (⟨#[39, 34, 92]⟩ : ByteArray).data.toList = [39, 34, 92] from rfl, HP.out]
                obtain ⟨w2, hw2⟩ : ∃ w2, w2 = (wr.drewN nq).drewN n1 := ⟨_, rfl⟩
                rw [← hw2]
                have hb2 : Below wr.heap.size wr w2 := by rw [hw2]; exact (Go.Joins.below_draws _ _ _).trans (Go.Joins.below_draws _ _ _)
                have hown2 := hown.below hb2
                have hB2 := hB.trans (hb2.mono hsz)
                have hsz2 := hB2.size
                clear hw2 hown hB hb2
                go_wp2_with (at_builtin; refine wpList_append_own _ rfl _ _ 53 rfl w.heap.size 5 i0 (.int .u8 0) 1 1 Tryz.underlying53 hi hz0 hz1 hz2 rfl (by decide) _ _ _ rfl (hown2.alloc _) ⟨w2.heap.size, 0, none⟩ 1 1 [.int .u8 (P.1 : Int)] rfl rfl ?c1 ?c2 ?c3 ?c4 ?c5 ?_)
                case c1 =>
                  intro j u hj
                  match j, hj with
                  | 0, hj => simp at hj; subst hj; simp [Addr.add]
                case c2 => intro u hu; simp at hu; subst hu; rfl
                case c3 => unfold maxLen; omega
                case c4 => omega
                case c5 => simp; omega
                intro v' w3 hown3 hgrow _
                have hown4 : Holds w3 w.heap.size v' (T ++ [UInt8.ofNat P.1]) := by unfold Holds; rw [bcs_app, List.length_append, bcs_one P.1 hP1]; exact hown3
                have HO : Hid (Holds w3 w.heap.size v' (T ++ [UInt8.ofNat P.1])) := hown4
                have hB3 := (hB2.alloc hsz2 _).grown hgrow (by simp; omega) (fun q hq => (World.ownsRow.lt hown2 _ hq).1)
                clear hown2 hown3 hown4 hgrow hB2
                go_wp2_with fail
                exact ⟨⟨k + P.2, T ++ [UInt8.ofNat P.1], by go_num, by omega, by omega, by rw [List.length_append, List.length_singleton]; omega, HO.out, hB3, HE.out⟩, by simp [intOf]; omega⟩
          · have HE : Hid (R = none) := HR.out.trans (unl_over _ s s[0] k T (by omega))
            have hd : decide ((k : Int) < (s.size : Int)) = false := by simp; omega
            have hd' : decide (k < s.size) = false := by simp; omega
            have hkk : ((k : Int) == (s.size : Int)) = true := by simp; omega
            clear HR
            go_wp2_with fail
            go_quiet (fail)
            go_wp2_with fail
            go_ret3
            exact ⟨by rw [HE.out] <;> rfl, hB.trans (Go.Joins.below_draws _ _ _)⟩
    · rw [if_neg hq] at e1
      subst e1
      have x1 : ((s[0].toNat : Int) != 39) = true := by simp; omega
      have x2 : ((s[0].toNat : Int) != 34) = true := by simp; omega
      clear hq
      go_enter Tryz.func118, Tryz.ntmps118
      go_wp2_with fail
      go_ret3
      exact ⟨rfl, Below.refl _ _⟩
end Go.Proofs.YtbeohmcmphebhaaGreatDoor
namespace Go.Proofs.YtbeohmcmphebhaaGreatDoor
open Go.RowKit
set_option linter.unusedVariables false
def szOf : Value → Nat
  | .string s => s.size
  | _ => 0
theorem list_head (u : ByteArray) (h : 0 < u.size) : u.data.toList = u[0] :: (u.extract 1 u.size).data.toList := by
  rw [cut_list]
  have := drop_cons u 0 h
  simpa using this
theorem dw_stop (p : UInt8 → Bool) (u : ByteArray) (h : 0 < u.size) (hp : p u[0] = false) : u.data.toList.dropWhile p = u.data.toList := by
  rw [list_head u h, List.dropWhile_cons, hp]; simp
theorem dw_on (p : UInt8 → Bool) (u : ByteArray) (h : 0 < u.size) (hp : p u[0] = true) : u.data.toList.dropWhile p = (u.extract 1 u.size).data.toList.dropWhile p := by
  rw [list_head u h, List.dropWhile_cons, hp]; simp
theorem ba_of_list (u : ByteArray) : (⟨u.data.toList.toArray⟩ : ByteArray) = u := by cases u; rfl
theorem ret_strl {a : ByteArray} {l : List UInt8} (h : a.data.toList = l) : Ending.returned (.string a) = .returned (.string ⟨l.toArray⟩) := by rw [← h, ba_of_list]
set_option maxHeartbeats 1000000 in
theorem trimA (s : ByteArray) (b : Nat) (p : UInt8 → Bool) (w : World) (hc : ∀ x : UInt8, w.cell? ⟨b, x.toNat, none⟩ = some (.bool (p x))) (hs : s.size ≤ maxLen) :
    Calls Tryz.prog 115 #[.string s, .pointer (some ⟨b, 0, none⟩)] w fun e w' => e = .returned (.string ⟨(s.data.toList.dropWhile p).toArray⟩) ∧ w' = w := by
  unfold maxLen at hs
  go_enter Tryz.func115, Tryz.ntmps115
  go_wp2_with fail
  go_loop [0] (fun v => ∃ u : ByteArray, v = .string u ∧ u.size ≤ s.size ∧ Hid (u.data.toList.dropWhile p = s.data.toList.dropWhile p)) (fun v => szOf v)
  case atStart => exact ⟨s, rfl, Nat.le_refl _, rfl⟩
  case round =>
    obtain ⟨u, rfl, hu, HU⟩ := hrel
    by_cases h0 : u.size = 0
    · obtain rfl := empty_of u h0
      go_wp2_with fail
      go_ret
      exact ⟨ret_strl (by rw [← HU.out]; rfl), rfl⟩
    · have h1 : (0 : Int) < u.size := by omega
      have h1' : 0 < u.size := by omega
      cases hp : p u[0] with
      | true =>
        have hk := Tryz.asciiSet_contains b u[0] true w (by rw [hc, hp])
        have HN : Hid ((u.extract 1 u.size).data.toList.dropWhile p = s.data.toList.dropWhile p) := by
          have := dw_on p u h1' hp
          exact this.symm.trans HU.out
        clear HU hp hc
        go_wp2_with (go_at_call 128; refine hk.mono ?_; rintro e w1 ⟨rfl, rfl⟩)
        go_round
        case rel => exact ⟨_, rfl, by simp; omega, HN⟩
        case measure => simp [szOf]; omega
      | false =>
        have hk := Tryz.asciiSet_contains b u[0] false w (by rw [hc, hp])
        have HN : Hid (u.data.toList = s.data.toList.dropWhile p) := by
          have := dw_stop p u h1' hp
          exact this.symm.trans HU.out
        clear HU hp hc
        go_wp2_with (go_at_call 128; refine hk.mono ?_; rintro e w1 ⟨rfl, rfl⟩)
        go_ret
        exact ⟨ret_strl HN.out, rfl⟩

theorem Tryz.zero147 : ∀ w, (zeroValue 147).run Tryz.prog w = .ok (.agg (Array.replicate 256 (.bool false))) w := by
  intro w; kernel_rfl
theorem Tryz.size147 : (Tryz.prog.info? 147).map (·.size) = some 256 := by kernel_rfl
set_option maxRecDepth 100000 in
set_option maxHeartbeats 4000000 in
theorem trimLeft_any (s cs : ByteArray) (p : UInt8 → Bool) (hpc : ∀ x, cs.data.toList.contains x = p x) (w : World) (hs : s.size ≤ maxLen) (h2 : 2 ≤ cs.size) (hl : cs.size < 4294967281) (ha : ∀ (j : Nat) b, cs.data.toList[j]? = some b → b.toNat < 128) :
    Calls Tryz.prog 104 #[.string s, .string cs] w fun e w' => e = .returned (.string ⟨(s.data.toList.dropWhile p).toArray⟩) ∧ Below w.heap.size w w' := by
  have hmk := Tryz.strings_makeASCIISet Tryz.zero147 cs w hl ha
  have ht : ∀ W : World, (∀ x : UInt8, W.cell? ⟨w.heap.size + 1, x.toNat, none⟩ = some (.bool (p x))) → _ := fun W h => trimA s (w.heap.size + 1) p W h hs
  clear ha
  have hcs : cs.size ≠ 0 := by omega
  by_cases h0 : s.size = 0
  · obtain rfl := empty_of s h0
    go_enter Tryz.func104, Tryz.ntmps104
    go_wp2_with fail
    go_ret
    exact ⟨rfl, Below.refl _ _⟩
  · have he := nonempty s h0
    have hce := nonempty cs hcs
    have hc1 : ((cs.size : Int) == 1) = false := by simp; omega
    have hsz := Lib.setCells_size cs.data.toList
    have hall := Lib.setCells_one cs.data.toList
    have hat := Lib.setCells_at cs.data.toList
    have hz : Tryz.zeroCells147.size = 256 := by kernel_rfl
    generalize Lib.setCells cs.data.toList = A at *
    have hsc : (storeCells ⟨w.heap.size + 1, 0, none⟩ A.toList 0).run Tryz.prog ((w.alloc (.cells A 147)).alloc (.cells Tryz.zeroCells147 147)) = .ok () ((w.alloc (.cells A 147)).alloc (.cells A 147)) := by
      have := run_storeCells_new (P := Tryz.prog) (w.alloc (.cells A 147)) 147 Tryz.zeroCells147 A (by rw [hsz]; exact Tryz.size147) (by rw [hsz, hz]) hall
      simpa using this
    have htt := ht ((w.alloc (.cells A 147)).alloc (.cells A 147)) (fun x => by
      have h1 := heap_alloc_last (w.alloc (.cells A 147)) (.cells A 147)
      have h2 : (w.alloc (.cells A 147)).heap.size = w.heap.size + 1 := by simp
      rw [h2] at h1
      unfold World.cell?
      simp only [h1]
      rw [hat x, hpc]; rfl)
    have HB : Hid (Below w.heap.size w ((w.alloc (.cells A 147)).alloc (.cells A 147))) := ((Below.refl _ _).alloc (Nat.le_refl _) _).alloc (by simp) _
    clear ht hat hall hz hpc
    go_enter Tryz.func104, Tryz.ntmps104
    go_wp2_with (first
      | (go_at_call 114; refine hmk.mono ?_; rintro e w1 ⟨rfl, rfl⟩)
      | (go_at_call 115; refine htt.mono ?_; rintro e w1 ⟨rfl, rfl⟩))
    go_ret
    exact ⟨rfl, HB.out⟩
end Go.Proofs.YtbeohmcmphebhaaGreatDoor
namespace Go.Proofs.YtbeohmcmphebhaaGreatDoor
open Go.RowKit
theorem pre_one (D : List UInt8) : Lib.hasPrefix D [45] = decide (D.headD 0 = 45) := by
  cases D with
  | nil => rfl
  | cons a r =>
    rw [Bool.eq_iff_iff]
    simp [Lib.hasPrefix]
    exact eq_comm
theorem pre_two (D : List UInt8) (h : D.headD 0 = 45) : Lib.hasPrefix D [45, 93] = decide (D.tail.headD 0 = 93) := by
  match D, h with
  | [], h => exact absurd h (by decide)
  | [a], h => simp at h; subst h; rfl
  | a :: b :: r, h =>
    simp at h; subst h
    rw [Bool.eq_iff_iff]
    simp [Lib.hasPrefix]
    exact eq_comm
theorem m_none (l : List UInt8) (h : (signAt cg l).2 = 0) : memberAt l = (0, 0, 0) := by unfold memberAt; rw [if_pos h]
theorem m_one (l : List UInt8) (h : (signAt cg l).2 ≠ 0) (h2 : ¬ (l.drop (signAt cg l).2).headD 0 = 45 ∨ (l.drop (signAt cg l).2).tail.headD 0 = 93) : memberAt l = ((signAt cg l).1, (signAt cg l).1, (signAt cg l).2) := by unfold memberAt; rw [if_neg h, if_pos h2]
theorem m_bad (l : List UInt8) (h : (signAt cg l).2 ≠ 0) (h2 : ¬ (¬ (l.drop (signAt cg l).2).headD 0 = 45 ∨ (l.drop (signAt cg l).2).tail.headD 0 = 93)) (h3 : (signAt cg (l.drop ((signAt cg l).2 + 1))).2 = 0) : memberAt l = (0, 0, 0) := by unfold memberAt; rw [if_neg h, if_neg h2, if_pos h3]
theorem m_two (l : List UInt8) (h : (signAt cg l).2 ≠ 0) (h2 : ¬ (¬ (l.drop (signAt cg l).2).headD 0 = 45 ∨ (l.drop (signAt cg l).2).tail.headD 0 = 93)) (h3 : (signAt cg (l.drop ((signAt cg l).2 + 1))).2 ≠ 0) :
    memberAt l = ((signAt cg l).1, (signAt cg (l.drop ((signAt cg l).2 + 1))).1, (signAt cg l).2 + 1 + (signAt cg (l.drop ((signAt cg l).2 + 1))).2) := by unfold memberAt; rw [if_neg h, if_neg h2, if_neg h3]
theorem drop_short (l : List UInt8) (n : Nat) (h : (l.drop n).headD 0 = 45) : n < l.length := by
  rcases Nat.lt_or_ge n l.length with h1 | h1
  · exact h1
  · rw [List.drop_eq_nil_of_le h1] at h; exact absurd h (by decide)
theorem ret_mem {a a' b b' c c' : Int} (h1 : a = a') (h2 : b = b') (h3 : c = c') : Ending.returned (.tuple #[.int .u8 a, .int .u8 b, .int .i64 c]) = .returned (.tuple #[.int .u8 a', .int .u8 b', .int .i64 c']) := by rw [h1, h2, h3]
set_option maxRecDepth 20000 in
set_option maxHeartbeats 1000000 in
theorem memberAt_any (s : ByteArray) (w : World) (hs : s.size ≤ maxLen) :
    Calls Tryz.prog 120 #[.string s] w fun e w' => e = .returned (.tuple #[.int .u8 ((memberAt s.data.toList).1 : Int), .int .u8 ((memberAt s.data.toList).2.1 : Int), .int .i64 ((memberAt s.data.toList).2.2 : Int)]) ∧ ∃ n, w' = w.drewN n := by
  have hs' := hs
  unfold maxLen at hs
  have hP := signAt_lt cg s.data.toList
  rw [llen] at hP
  by_cases hz : (signAt cg s.data.toList).2 = 0
  · rw [m_none _ hz]
    generalize hPP : signAt cg s.data.toList = P at *
    have HP : Hid (signAt cg s.data.toList = P) := hPP
    have hx : ((P.2 : Int) == 0) = true := by simp; omega
    clear hPP hz
    go_enter Tryz.func120, Tryz.ntmps120
    go_wp2_with fail
    refine (signAt_any s ⟨#[91, 93, 45, 94, 92]⟩ _ hs').mono ?_
    rintro e w1 ⟨rfl, n1, rfl⟩
    rw [show signAt (⟨#[91, 93, 45, 94, 92]⟩ : ByteArray).data.toList s.data.toList = P from HP.out]
    go_wp2_with fail
    go_ret3
    exact ⟨rfl, n1, rfl⟩
  · have hm1 := m_one s.data.toList hz
    have hm2 := m_bad s.data.toList hz
    have hm3 := m_two s.data.toList hz
    have hp1 := pre_one (s.data.toList.drop (signAt cg s.data.toList).2)
    have hp2 := pre_two (s.data.toList.drop (signAt cg s.data.toList).2)
    have hds := drop_short s.data.toList (signAt cg s.data.toList).2
    rw [llen] at hds
    generalize hM : memberAt s.data.toList = M at *
    generalize hPP : signAt cg s.data.toList = P at *
    have HP : Hid (signAt cg s.data.toList = P) := hPP
    have hx : ((P.2 : Int) == 0) = false := by simp; omega
    have hP2 : (P.2 : Int) ≤ (s.size : Int) := by omega
    clear hPP hM
    by_cases h45 : (s.data.toList.drop P.2).headD 0 = 45
    · have hp3 := hp2 h45
      have hlt := hds h45
      rw [decide_eq_true h45] at hp1
      by_cases h93 : (s.data.toList.drop P.2).tail.headD 0 = 93
      · have HM : Hid (M = _) := hm1 (.inr h93)
        rw [decide_eq_true h93] at hp3
        have H1 : Hid (Lib.hasPrefix (s.data.toList.drop P.2) [45] = true) := hp1
        have H2 : Hid (Lib.hasPrefix (s.data.toList.drop P.2) [45, 93] = true) := hp3
        clear hm1 hm2 hm3 hp1 hp2 hp3 hds h45 h93
        go_enter Tryz.func120, Tryz.ntmps120
        go_wp2_with fail
        refine (signAt_any s ⟨#[91, 93, 45, 94, 92]⟩ _ hs').mono ?_
        rintro e w1 ⟨rfl, n1, rfl⟩
        rw [show signAt (⟨#[91, 93, 45, 94, 92]⟩ : ByteArray).data.toList s.data.toList = P from HP.out]
        go_wp2_with fail
        refine (Tryz.strings_HasPrefix (s.extract P.2 s.size) ⟨#[45]⟩ _).mono ?_
        rintro e w2 ⟨rfl, rfl⟩
        rw [cut_list, show Lib.hasPrefix (s.data.toList.drop P.2) (⟨#[45]⟩ : ByteArray).data.toList = true from H1.out]
        go_wp2_with fail
        refine (Tryz.strings_HasPrefix (s.extract P.2 s.size) ⟨#[45, 93]⟩ _).mono ?_
        rintro e w2 ⟨rfl, rfl⟩
        rw [cut_list, show Lib.hasPrefix (s.data.toList.drop P.2) (⟨#[45, 93]⟩ : ByteArray).data.toList = true from H2.out]
        go_wp2_with fail
        go_ret3
        exact ⟨ret_mem (by rw [HM.out]) (by rw [HM.out]) (by rw [HM.out]), n1, rfl⟩
      · rw [decide_eq_false h93] at hp3
        have H1 : Hid (Lib.hasPrefix (s.data.toList.drop P.2) [45] = true) := hp1
        have H2 : Hid (Lib.hasPrefix (s.data.toList.drop P.2) [45, 93] = false) := hp3
        have hno : ¬ (¬ (s.data.toList.drop P.2).headD 0 = 45 ∨ (s.data.toList.drop P.2).tail.headD 0 = 93) := fun h => by
          rcases h with h | h
          · exact h h45
          · exact h93 h
        have hQ := signAt_lt cg (s.data.toList.drop (P.2 + 1))
        rw [List.length_drop, llen] at hQ
        have hm4 := hm2 hno
        have hm5 := hm3 hno
        clear hm1 hm2 hm3 hp1 hp2 hp3 hds h45 h93 hno
        generalize hQQ : signAt cg (s.data.toList.drop (P.2 + 1)) = Q at *
        have HQ : Hid (signAt cg (s.data.toList.drop (P.2 + 1)) = Q) := hQQ
        clear hQQ
        have hP3 : (P.2 : Int) + 1 ≤ (s.size : Int) := by omega
        have hor : (((Q.2 : Int) == 0) = true ∧ Hid (M = (0, 0, 0))) ∨ (((Q.2 : Int) == 0) = false ∧ Hid (M = (P.1, Q.1, P.2 + 1 + Q.2))) := by
          by_cases e : Q.2 = 0
          · exact .inl ⟨by simp; omega, hm4 e⟩
          · exact .inr ⟨by simp; omega, hm5 e⟩
        clear hm4 hm5
        have hQ1 : (Q.2 : Int) ≤ (s.size : Int) - ((P.2 : Int) + 1) := by omega
        rcases hor with ⟨hq, HM⟩ | ⟨hq, HM⟩
        all_goals
          go_enter Tryz.func120, Tryz.ntmps120
          go_wp2_with fail
          refine (signAt_any s ⟨#[91, 93, 45, 94, 92]⟩ _ hs').mono ?_
          rintro e w1 ⟨rfl, n1, rfl⟩
          rw [show signAt (⟨#[91, 93, 45, 94, 92]⟩ : ByteArray).data.toList s.data.toList = P from HP.out]
          go_wp2_with fail
          refine (Tryz.strings_HasPrefix (s.extract P.2 s.size) ⟨#[45]⟩ _).mono ?_
          rintro e w2 ⟨rfl, rfl⟩
          rw [cut_list, show Lib.hasPrefix (s.data.toList.drop P.2) (⟨#[45]⟩ : ByteArray).data.toList = true from H1.out]
          go_wp2_with fail
          refine (Tryz.strings_HasPrefix (s.extract P.2 s.size) ⟨#[45, 93]⟩ _).mono ?_
          rintro e w2 ⟨rfl, rfl⟩
          rw [cut_list, show Lib.hasPrefix (s.data.toList.drop P.2) (⟨#[45, 93]⟩ : ByteArray).data.toList = false from H2.out]
          go_wp2_with fail
          refine (signAt_any (s.extract (P.2 + 1) s.size) ⟨#[91, 93, 45, 94, 92]⟩ _ (by have := cut_size s (P.2 + 1); unfold maxLen; omega)).mono ?_
          rintro e w1 ⟨rfl, n2, rfl⟩
          rw [cut_list, show signAt (⟨#[91, 93, 45, 94, 92]⟩ : ByteArray).data.toList (s.data.toList.drop (P.2 + 1)) = Q from HQ.out]
          go_wp2_with fail
          go_ret3
          first
          | exact ⟨ret_mem (by rw [HM.out]; rfl) (by rw [HM.out]; rfl) (by rw [HM.out]; rfl), _, rfl⟩
          | exact ⟨ret_mem (by rw [HM.out]) (by rw [HM.out]) (by rw [HM.out]; show _ = ((P.2 + 1 + Q.2 : Nat) : Int); omega), _, rfl⟩
    · have HM : Hid (M = _) := hm1 (.inl h45)
      rw [decide_eq_false h45] at hp1
      have H1 : Hid (Lib.hasPrefix (s.data.toList.drop P.2) [45] = false) := hp1
      clear hm1 hm2 hm3 hp1 hp2 hds h45
      go_enter Tryz.func120, Tryz.ntmps120
      go_wp2_with fail
      refine (signAt_any s ⟨#[91, 93, 45, 94, 92]⟩ _ hs').mono ?_
      rintro e w1 ⟨rfl, n1, rfl⟩
      rw [show signAt (⟨#[91, 93, 45, 94, 92]⟩ : ByteArray).data.toList s.data.toList = P from HP.out]
      go_wp2_with fail
      refine (Tryz.strings_HasPrefix (s.extract P.2 s.size) ⟨#[45]⟩ _).mono ?_
      rintro e w2 ⟨rfl, rfl⟩
      rw [cut_list, show Lib.hasPrefix (s.data.toList.drop P.2) (⟨#[45]⟩ : ByteArray).data.toList = false from H1.out]
      go_wp2_with fail
      go_ret3
      exact ⟨ret_mem (by rw [HM.out]) (by rw [HM.out]) (by rw [HM.out]), n1, rfl⟩
end Go.Proofs.YtbeohmcmphebhaaGreatDoor
