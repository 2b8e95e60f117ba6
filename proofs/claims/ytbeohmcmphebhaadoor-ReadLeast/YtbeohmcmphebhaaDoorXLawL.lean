import Derived.Test.YtbeohmcmphebhaaDoorXLawA
import Derived.Test.YtbeohmcmphebhaaDoorXPieC
namespace Go.Proofs.YtbeohmcmphebhaaDoor
open Go.RowKit
open Ex.In (InL)
set_option linter.unusedVariables false
def xA (b : UInt8) : Ex := .mk 4 0#256 ⟨#[b]⟩ none 0 []
def xK (n : Nat) : Ex := .mk 7 0#256 ⟨#[]⟩ (some ⟨n + 1, 0, none⟩) 1 [.mk 5 0#256 ⟨#[]⟩ (some ⟨n, 0, none⟩) 2 [xA 97, xA 98]]
theorem xK_check (n : Nat) : check (xK n) = 0 := by rw [← check_er, show (xK n).er = (xK 0).er from rfl]; decide +kernel
theorem xK_pr (n : Nat) : (xK n).pr = [40, 97, 32, 98, 41, 42] := by rfl
def wA (w : World) : World := w.alloc (.cells #[.int .i64 4, .int .u64 0, .int .u64 0, .int .u64 0, .int .u64 0, .string ⟨#[97]⟩, .slice none 0 0, .int .i64 4, .int .u64 0, .int .u64 0, .int .u64 0, .int .u64 0, .string ⟨#[98]⟩, .slice none 0 0] 27)
def wK (w : World) : World := (wA w).alloc (.cells #[.int .i64 5, .int .u64 0, .int .u64 0, .int .u64 0, .int .u64 0, .string ⟨#[]⟩, .slice (some ⟨w.heap.size, 0, none⟩) 2 2] 27)
theorem wA_size (w : World) : (wA w).heap.size = w.heap.size + 1 := by unfold wA; simp
theorem wK_size (w : World) : (wK w).heap.size = w.heap.size + 2 := by unfold wK; simp [wA_size]
theorem cells0 (k : Int) (t : ByteArray) (a : Option Addr) (c : Nat) (kids : List Ex) : (Ex.mk k 0#256 t a c kids).cells = #[.int .i64 k, .int .u64 0, .int .u64 0, .int .u64 0, .int .u64 0, .string t, .slice a kids.length c] := by
  have w0 : wd 0#256 0 = 0 := by decide
  have w1 : wd 0#256 1 = 0 := by decide
  have w2 : wd 0#256 2 = 0 := by decide
  have w3 : wd 0#256 3 = 0 := by decide
  show #[Value.int .i64 k, .int .u64 (wd 0#256 0), .int .u64 (wd 0#256 1), .int .u64 (wd 0#256 2), .int .u64 (wd 0#256 3), .string t, .slice a kids.length c] = _
  rw [w0, w1, w2, w3]
theorem xK_in (w : World) : (xK w.heap.size).In (wK w).heap.size (wK w) := by
  have hs := wK_size w
  have b1 : BoxN (wK w) w.heap.size 27 _ := (BoxN.new w 27 _ : BoxN (wA w) w.heap.size 27 _).alloc _
  have b2 : BoxN (wK w) (wA w).heap.size 27 _ := BoxN.new (wA w) 27 _
  rw [wA_size] at b2
  have c1 := b1.cell
  have c2 := b2.cell
  have j7 : ∀ j : Nat, j < 7 → j = 0 ∨ j = 1 ∨ j = 2 ∨ j = 3 ∨ j = 4 ∨ j = 5 ∨ j = 6 := fun j h => by omega
  unfold xK
  rw [Ex.In]
  refine ⟨⟨by simp, by show 0 ≤ _; omega⟩, ?_⟩
  rw [InL]
  refine ⟨⟨w.heap.size + 1, 0, rfl, by omega, fun j hj => ?_⟩, ?_, by rw [InL]; trivial⟩
  · rw [cells0]; rcases j7 j hj with rfl | rfl | rfl | rfl | rfl | rfl | rfl <;> exact (c2 _).trans rfl
  · rw [Ex.In]
    refine ⟨⟨by simp, by show 0 ≤ _; omega⟩, ?_⟩
    rw [InL]
    refine ⟨⟨w.heap.size, 0, rfl, by omega, fun j hj => ?_⟩, ?_, ?_⟩
    · unfold xA; rw [cells0]; rcases j7 j hj with rfl | rfl | rfl | rfl | rfl | rfl | rfl <;> exact (c1 _).trans rfl
    · unfold xA; rw [Ex.In]; exact ⟨⟨by simp, by show 1 ≤ _; omega⟩, by rw [InL]; trivial⟩
    · rw [InL]
      refine ⟨⟨w.heap.size, 0, rfl, by omega, fun j hj => ?_⟩, ?_, by rw [InL]; trivial⟩
      · unfold xA; rw [cells0]; rcases j7 j hj with rfl | rfl | rfl | rfl | rfl | rfl | rfl <;> exact (c1 _).trans rfl
      · unfold xA; rw [Ex.In]; exact ⟨⟨by simp, by show 1 ≤ _; omega⟩, by rw [InL]; trivial⟩
theorem print_K (w : World) (n : Nat) (hn : w.heap.size = n) : Calls Tryd.prog 11 #[.agg #[.int .i64 7, .int .u64 0, .int .u64 0, .int .u64 0, .int .u64 0, .string ⟨#[]⟩, .slice (some ⟨n + 1, 0, none⟩) 1 1]] ((w.alloc (.cells #[.int .i64 4, .int .u64 0, .int .u64 0, .int .u64 0, .int .u64 0, .string ⟨#[97]⟩, .slice none 0 0, .int .i64 4, .int .u64 0, .int .u64 0, .int .u64 0, .int .u64 0, .string ⟨#[98]⟩, .slice none 0 0] 27)).alloc (.cells #[.int .i64 5, .int .u64 0, .int .u64 0, .int .u64 0, .int .u64 0, .string ⟨#[]⟩, .slice (some ⟨n, 0, none⟩) 2 2] 27)) fun r W' => r = .returned (.tuple #[.string ⟨#[40, 97, 32, 98, 41, 42]⟩, .int .i64 0]) ∧ Below w.heap.size w W' := by
  subst hn
  have h := print_any (xK w.heap.size) (wK w) (xK_in w)
  have hp : prR (xK w.heap.size) = [40, 97, 32, 98, 41, 42] := by unfold prR; rw [if_pos (xK_check _), xK_pr]
  rw [hp, xK_check] at h
  have hv : (xK w.heap.size).val = .agg #[.int .i64 7, .int .u64 0, .int .u64 0, .int .u64 0, .int .u64 0, .string ⟨#[]⟩, .slice (some ⟨w.heap.size + 1, 0, none⟩) 1 1] := by
    show Value.agg (xK w.heap.size).cells = _
    unfold xK
    rw [cells0]; rfl
  rw [hv] at h
  have b0 : Below w.heap.size w (wK w) := ((Below.refl w.heap.size w).alloc (Nat.le_refl _) _).alloc (by simp) _
  have h2 : Calls Tryd.prog 11 _ (wK w) fun r W' => r = .returned (.tuple #[.string ⟨#[40, 97, 32, 98, 41, 42]⟩, .int .i64 0]) ∧ Below w.heap.size w W' := h.mono (by
    rintro r W' ⟨rfl, hb⟩
    exact ⟨rfl, b0.trans (hb.mono b0.size)⟩)
  exact h2
theorem Chg.refl : ∀ (x : List UInt8), Chg x x
  | [] => trivial
  | a :: x => ⟨.inl rfl, Chg.refl x⟩
theorem Chg.both : ∀ {x x' y y' : List UInt8}, Chg x x' → Chg y y' → Chg (x ++ y) (x' ++ y')
  | [], x', y, y', h1, h2 => by rw [h1.nil]; exact h2
  | a :: x, x', y, y', h1, h2 => by
    obtain ⟨b, m, rfl, hb, hm⟩ := h1.cons
    exact ⟨hb, hm.both h2⟩
theorem chg_cut (a b c : List UInt8) : Chg (a ++ 40 :: (b ++ 41 :: c)) (a ++ 32 :: (b ++ 32 :: c)) ∧ (a ++ 32 :: (b ++ 32 :: c)).count 40 < (a ++ 40 :: (b ++ 41 :: c)).count 40 := by
  refine ⟨(Chg.refl a).both ⟨.inr ⟨rfl, .inl rfl⟩, (Chg.refl b).both ⟨.inr ⟨rfl, .inr rfl⟩, Chg.refl c⟩⟩, ?_⟩
  simp only [List.count_append, List.count_cons]
  have h1 : ((32 : UInt8) == 40) = false := by decide
  have h2 : ((40 : UInt8) == 40) = true := by decide
  have h3 : ((41 : UInt8) == 40) = false := by decide
  rw [h1, h2, h3]
  simp
theorem cut_of (l : List UInt8) (i k : Nat) (hik : i < k) (hk : k < l.length) (h40 : l[i]? = some 40) (h41 : l[k]? = some 41) : l = l.take i ++ 40 :: ((l.take k).drop (i + 1) ++ 41 :: l.drop (k + 1)) := by
  have e1 : l.drop k = 41 :: l.drop (k + 1) := by
    rw [List.drop_eq_getElem_cons hk]
    rw [List.getElem?_eq_getElem hk] at h41
    injection h41 with h41; rw [h41]
  have hlt : i < (l.take k).length := by rw [List.length_take]; omega
  have e2 : (l.take k).drop i = 40 :: (l.take k).drop (i + 1) := by
    rw [List.drop_eq_getElem_cons hlt]
    have : (l.take k)[i]? = some 40 := by rw [List.getElem?_take_of_lt hik]; exact h40
    rw [List.getElem?_eq_getElem hlt] at this
    injection this with this; rw [this]
  calc l = l.take k ++ l.drop k := (List.take_append_drop k l).symm
    _ = ((l.take k).take i ++ (l.take k).drop i) ++ l.drop k := congrArg (· ++ l.drop k) (List.take_append_drop i (l.take k)).symm
    _ = _ := by rw [e1, e2, List.take_take, Nat.min_eq_left (by omega), List.append_assoc, List.cons_append]
/-- What the law reads in place of what was printed. -/
theorem cats4 (T : ByteArray) (i k : Nat) (hT : T.size ≤ 2000) : ∃ A1 A2 A3 A4 : ByteArray, A4.data.toList = T.data.toList.take i ++ 32 :: ((T.data.toList.take k).drop (i + 1) ++ 32 :: T.data.toList.drop (k + 1)) ∧ (i < k → k < T.size → A4.size = T.size) ∧ A4.size ≤ 8002 ∧
    (∀ W, (Op.stringOp .add (T.extract 0 i) (⟨#[32]⟩ : ByteArray)).run Tryd.prog W = .ok (.string A1) W) ∧ (∀ W, (Op.stringOp .add A1 (T.extract (i + 1) k)).run Tryd.prog W = .ok (.string A2) W) ∧
    (∀ W, (Op.stringOp .add A2 (⟨#[32]⟩ : ByteArray)).run Tryd.prog W = .ok (.string A3) W) ∧ (∀ W, (Op.stringOp .add A3 (T.extract (k + 1) T.size)).run Tryd.prog W = .ok (.string A4) W) := by
  have e1 : (⟨#[32]⟩ : ByteArray).size = 1 := rfl
  have l1 : (⟨#[32]⟩ : ByteArray).data.toList = [32] := rfl
  have s1 : (T.extract 0 i).size ≤ T.size := by rw [ByteArray.size_extract]; omega
  have s2 : (T.extract (i + 1) k).size ≤ T.size := by rw [ByteArray.size_extract]; omega
  have s3 : (T.extract (k + 1) T.size).size ≤ T.size := by rw [ByteArray.size_extract]; omega
  have t1 : (T.extract 0 i).data.toList = T.data.toList.take i := by
    rw [ByteArray.data_extract, Array.toList_extract, List.extract_eq_take_drop]; simp
  have t2 : (T.extract (i + 1) k).data.toList = (T.data.toList.take k).drop (i + 1) := by
    rw [ByteArray.data_extract, Array.toList_extract, List.extract_eq_take_drop, List.drop_take]
  have t3 := cut_list T (k + 1)
  have n1 : (T.extract 0 i).size = min i T.size := by rw [ByteArray.size_extract]; omega
  have n2 : (T.extract (i + 1) k).size = min k T.size - (i + 1) := by rw [ByteArray.size_extract]
  have n3 : (T.extract (k + 1) T.size).size = T.size - (k + 1) := by rw [ByteArray.size_extract]; omega
  generalize (⟨#[32]⟩ : ByteArray) = P at *
  generalize T.extract 0 i = X1 at *
  generalize T.extract (i + 1) k = X2 at *
  generalize T.extract (k + 1) T.size = X3 at *
  refine ⟨X1 ++ P, X1 ++ P ++ X2, X1 ++ P ++ X2 ++ P, X1 ++ P ++ X2 ++ P ++ X3, ?_, ?_, ?_, fun W => run_string_add_sum W _ _ (by omega), fun W => run_string_add_sum W _ _ (by simp only [ByteArray.size_append]; omega), fun W => run_string_add_sum W _ _ (by simp only [ByteArray.size_append]; omega), fun W => run_string_add_sum W _ _ (by simp only [ByteArray.size_append]; omega)⟩
  · simp only [ByteArray.data_append, Array.toList_append, l1, t1, t2, t3]; simp
  · intro h1 h2; simp only [ByteArray.size_append, n1, n2, n3, e1]; omega
  · simp only [ByteArray.size_append]; omega
def zc : Array Value := #[.int .i64 0, .int .u64 0, .int .u64 0, .int .u64 0, .int .u64 0, .string ⟨#[]⟩, .slice none 0 0]
theorem zc_eq : (nd 0 []).cells = zc := cells0 0 ⟨#[]⟩ none 0 []
theorem Hd.stored {e z : Ex} {w W : World} {E : Nat} {old : Array Value} (h : Hd e w W) (hE : BoxN W E 27 old) (hne : w.heap.size < E) : Hd e w (W.setRow E z.cells) ∧ BoxN (W.setRow E z.cells) E 27 z.cells ∧ W.grownBy (W.setRow E z.cells) (some E) := by
  have g := grown_row (cs := z.cells) hE
  exact ⟨⟨h.1.kept g.2 (fun e => by cases e; omega), h.2.grown g.2 h.2.size (fun k hk => by cases hk; omega)⟩, g⟩
set_option maxRecDepth 20000 in
set_option maxHeartbeats 8000000 in
theorem least_any (e : Ex) (w : World) (hin : e.In w.heap.size w) :
    Calls Tryd.prog 6 #[e.val] w fun r W' => r = .returned (.bool true) ∧ Below w.heap.size w W' := by
  have H0 : Hid (Hd e w (w.alloc (.cells e.cells 27))) := ⟨BoxN.new w 27 e.cells, (Below.refl w.heap.size w).alloc (Nat.le_refl _) _⟩
  have hcs := print_K (w.alloc (.cells e.cells 27)) (w.heap.size + 1) (by simp)
  have hpr : ∀ W, Hd e w W → _ := fun W h => print_any e W (hin.grow h.2)
  rw [val_eq] at hpr
  rw [val_eq]
  rw [cells_eq] at hcs
  by_cases h0 : check e = 0
  · have hp2 : prR e = e.pr := by unfold prR; rw [if_pos h0]
    rw [hp2, h0] at hpr
    have hsz := mk_size e.pr
    by_cases hlg : 2000 < e.pr.length
    · generalize (⟨e.pr.toArray⟩ : ByteArray) = T at *
      have hgt : (2000 : Int) < T.size := by omega
      clear hlg hp2 h0 hsz
      go_enter Tryd.func6, Tryd.ntmps6
      go_wp2_with (first
        | (go_at_call 11; refine hcs.mono ?_; clear hcs; rintro r W1 ⟨rfl, hb1⟩; rw [← cells_eq] at hb1; have K1 : Hid (Hd e w W1) := H0.out.next hb1; have cE1 := K1.out.1.cell; rw [cells_eq] at cE1; clear hb1)
        | (go_at_call 11; refine (hpr _ K1.out).mono ?_; clear hpr; rintro r W2 ⟨rfl, hb2⟩; have K2 : Hid (Hd e w W2) := Hd.next (e := e) (w := w) K1.out hb2; clear hb2 cE1))
      go_ret
      exact ⟨by simp, K2.out.2⟩
    · have HT : Hid ((⟨e.pr.toArray⟩ : ByteArray).data.toList = e.pr) := rfl
      generalize (⟨e.pr.toArray⟩ : ByteArray) = T at *
      have hgt : ¬ (2000 : Int) < T.size := by omega
      have hT : T.size ≤ 2000 := by omega
      clear hlg hp2 hsz
      go_enter Tryd.func6, Tryd.ntmps6
      go_wp2_with (first
        | (go_at_call 11; refine hcs.mono ?_; clear hcs; rintro r W1 ⟨rfl, hb1⟩; rw [← cells_eq] at hb1; have K1 : Hid (Hd e w W1) := H0.out.next hb1; have cE1 := K1.out.1.cell; rw [cells_eq] at cE1; clear hb1)
        | (go_at_call 11; refine (hpr _ K1.out).mono ?_; clear hpr; rintro r W2 ⟨rfl, hb2⟩; have K2 : Hid (Hd e w W2) := Hd.next (e := e) (w := w) K1.out hb2; clear hb2 cE1))
      go_loopw [48] (fun v wx => ∃ i : Nat, v = .int .i64 i ∧ i ≤ T.size ∧ Hd e w wx) (fun v _ => T.size - (intOf v).toNat)
      case atStart => exact ⟨0, rfl, by omega, K2.out⟩
      case round =>
        obtain ⟨i, rfl, hi, KI⟩ := hrel
        by_cases hlt : (i : Int) < T.size
        · go_wp2_with fail
          go_loopw [8] (fun v wx => ∃ k : Nat, v = .int .i64 k ∧ i + 2 ≤ k ∧ k ≤ T.size + 2 ∧ Hd e w wx) (fun v _ => T.size + 2 - (intOf v).toNat)
          case atStart => exact ⟨i + 2, by go_num, by omega, by omega, KI⟩
          case round =>
            obtain ⟨k, rfl, hk, hk2, KK⟩ := hrel
            by_cases hkt : (k : Int) < T.size
            · by_cases g1 : T[i]'(by omega) = 40
              · by_cases g2 : T[k]'(by omega) = 41
                · have gg1 : (((T[i]'(by omega)).toNat : Int) != 40) = false := by rw [g1]; rfl
                  have gg2 : (((T[k]'(by omega)).toNat : Int) != 41) = false := by rw [g2]; rfl
                  obtain ⟨A1, A2, A3, A4, hAl, hAe, hAs, ha1, ha2, ha3, ha4⟩ := cats4 T i k hT
                  have hnl : Hid (∀ f, parse A4.data.toList = .ok f → f ≠ e.er) := fun f hf => by
                    have hx : i < T.data.toList.length := by rw [llen]; omega
                    have hy : k < T.data.toList.length := by rw [llen]; omega
                    have hc := cut_of T.data.toList i k (by omega) hy (by rw [List.getElem?_eq_getElem hx]; exact congrArg some g1) (by rw [List.getElem?_eq_getElem hy]; exact congrArg some g2)
                    have hch := chg_cut (T.data.toList.take i) ((T.data.toList.take k).drop (i + 1)) (T.data.toList.drop (k + 1))
                    rw [← hc, ← hAl, HT.out] at hch
                    exact no_less e (okA_check e h0) _ hch.1 hch.2 f hf
                  have hpa : ∀ W, _ := fun W => parse_say A4 W (by omega)
                  have hpc := par_cases A4.data.toList
                  unfold Says3 at hpa
                  have hnl2 : Hid ((par A4.data.toList).2.2 = 0 → (par A4.data.toList).1 ≠ e.er) := by
                    unfold par
                    rw [if_neg (by rw [llen, hAe (by omega) (by omega)]; omega)]
                    cases hp : parse A4.data.toList with
                    | error s => intro h; exact absurd h (by show ¬ (4 : Int) = 0; decide)
                    | ok x =>
                      by_cases hx : check x = 0
                      · simp only [if_pos hx]; exact fun _ => hnl.out x hp
                      · simp only [if_neg hx]; exact fun h => absurd h hx
                  generalize par A4.data.toList = R at *
                  obtain ⟨x, n, er⟩ := R
                  simp only at hpa hnl2
                  clear hAl hpc hnl
                  by_cases her : er = 0
                  · subst her
                    have hne : Hid (x ≠ e.er) := hnl2.out rfl
                    have hsm : Hid (∀ (y : Ex) W, Hd e w W → y.In W.heap.size W → y.er = x → Calls Tryd.prog 10 #[e.val, y.val] W fun r w' => r = .returned (.bool false) ∧ Below W.heap.size W w') := fun y W h hy he => by
                      have := same_any e y W (hin.grow h.2) hy
                      have hf : e.same y = false := by
                        cases hq : e.same y with
                        | false => rfl
                        | true => exact absurd ((same_er e y).1 hq).symm (by rw [he]; exact hne.out)
                      rw [hf] at this
                      exact this
                    clear hnl2 hne
                    have KD : Hid (Hd e w (World.drew _)) := ⟨KK.1, KK.2.drew⟩
                    have hpa2 : Hid (∀ W, Calls Tryd.prog 8 #[.string A4] W fun r w' => (∃ y : Ex, r = .returned (.tuple #[.agg y.cells, .int .i64 n, .int .i64 0]) ∧ y.er = x ∧ y.Ou (W.heap.size ≤ ·) w') ∧ Below W.heap.size W w') := hpa
                    clear hpa
                    go_wp2_with fail
                    refine wp_region_any (by kernel_rfl) ?_
                    try (change wpAny _ _ _ _ _ _ _ (World.drew _))
                    refine wpAny_take (i := 0) (v := .string T) rfl (by kernel_rfl) (by kernel_rfl) (by kernel_rfl) (fun _ _ _ h => h) (Or.inl ⟨by rfl, ?_⟩) ?_
                    · intro w; go_simp
                    refine wpAny_take (i := 1) (v := .int .i64 i) rfl (by kernel_rfl) (by kernel_rfl) (by kernel_rfl) (fun _ _ _ h => h) (Or.inl ⟨by rfl, ?_⟩) ?_
                    · intro w; go_simp
                    refine wpAny_take (i := 2) (v := .string (T.extract 0 i)) rfl (by kernel_rfl) (by kernel_rfl) (by kernel_rfl) (fun _ _ _ h => h) (Or.inl ⟨by rfl, ?_⟩) ?_
                    · intro w; go_simp
                    refine wpAny_take (i := 3) (v := .string A1) rfl (by kernel_rfl) (by kernel_rfl) (by kernel_rfl) (fun _ _ _ h => h) (Or.inl ⟨by rfl, ?_⟩) ?_
                    · intro w; go_simp
                    refine wpAny_take (i := 4) (v := .string T) rfl (by kernel_rfl) (by kernel_rfl) (by kernel_rfl) (fun _ _ _ h => h) (Or.inl ⟨by rfl, ?_⟩) ?_
                    · intro w; go_simp
                    refine wpAny_take (i := 5) (v := .int .i64 i) rfl (by kernel_rfl) (by kernel_rfl) (by kernel_rfl) (fun _ _ _ h => h) (Or.inl ⟨by rfl, ?_⟩) ?_
                    · intro w; go_simp
                    refine wpAny_take (i := 6) (v := .int .i64 ((i : Int) + 1)) rfl (by kernel_rfl) (by kernel_rfl) (by kernel_rfl) (fun _ _ _ h => h) (Or.inl ⟨by rfl, ?_⟩) ?_
                    · intro w; go_simp; exact IntWalk.i64_in _ (by omega)
                    refine wpAny_take (i := 7) (v := .int .i64 k) rfl (by kernel_rfl) (by kernel_rfl) (by kernel_rfl) (fun _ _ _ h => h) (Or.inl ⟨by rfl, ?_⟩) ?_
                    · intro w; go_simp
                    refine wpAny_take (i := 8) (v := .string (T.extract (i + 1) k)) rfl (by kernel_rfl) (by kernel_rfl) (by kernel_rfl) (fun _ _ _ h => h) (Or.inl ⟨by rfl, ?_⟩) ?_
                    · intro w; go_simp; rw [if_pos (by omega), if_pos (by omega)]
                    refine wpAny_take (i := 9) (v := .string A2) rfl (by kernel_rfl) (by kernel_rfl) (by kernel_rfl) (fun _ _ _ h => h) (Or.inl ⟨by rfl, ?_⟩) ?_
                    · intro w; go_simp
                    refine wpAny_take (i := 10) (v := .string A3) rfl (by kernel_rfl) (by kernel_rfl) (by kernel_rfl) (fun _ _ _ h => h) (Or.inl ⟨by rfl, ?_⟩) ?_
                    · intro w; go_simp
                    refine wpAny_take (i := 11) (v := .string T) rfl (by kernel_rfl) (by kernel_rfl) (by kernel_rfl) (fun _ _ _ h => h) (Or.inl ⟨by rfl, ?_⟩) ?_
                    · intro w; go_simp
                    refine wpAny_take (i := 12) (v := .int .i64 k) rfl (by kernel_rfl) (by kernel_rfl) (by kernel_rfl) (fun _ _ _ h => h) (Or.inl ⟨by rfl, ?_⟩) ?_
                    · intro w; go_simp
                    refine wpAny_take (i := 13) (v := .int .i64 ((k : Int) + 1)) rfl (by kernel_rfl) (by kernel_rfl) (by kernel_rfl) (fun _ _ _ h => h) (Or.inl ⟨by rfl, ?_⟩) ?_
                    · intro w; go_simp; exact IntWalk.i64_in _ (by omega)
                    refine wpAny_take (i := 14) (v := .string (T.extract (k + 1) T.size)) rfl (by kernel_rfl) (by kernel_rfl) (by kernel_rfl) (fun _ _ _ h => h) (Or.inl ⟨by rfl, ?_⟩) ?_
                    · intro w; go_simp; intro h; exfalso; have := h (by omega); omega
                    refine wpAny_take (i := 15) (v := .string A4) rfl (by kernel_rfl) (by kernel_rfl) (by kernel_rfl) (fun _ _ _ h => h) (Or.inl ⟨by rfl, ?_⟩) ?_
                    · intro w; go_simp
                    refine wpAny_ready (rs := [16, 21]) (by kernel_rfl) (by simp) (AllReady.cons rfl (fun K hK => ?_) (AllReady.cons rfl (fun K hK => ?_) AllReady.nil))
                    · go_simp
                      go_at_call 8
                      refine (hpa2.out _).mono ?_
                      rintro r W3 ⟨⟨y3, rfl, hye, hyo⟩, hb3⟩
                      refine hK _ _ ?_
                      clear hK K
                      have H3 : Hd e w W3 := KD.out.next hb3
                      refine wpAny_take (i := 17) (v := .tuple #[.agg y3.cells, .int .i64 n, .int .i64 0]) rfl (by kernel_rfl) (by kernel_rfl) (by kernel_rfl) (fun _ _ _ h => h) (Or.inl ⟨by rfl, ?_⟩) ?_
                      · intro w; go_simp
                      refine wpAny_take (i := 18) (v := .agg y3.cells) rfl (by kernel_rfl) (by kernel_rfl) (by kernel_rfl) (fun _ _ _ h => h) (Or.inl ⟨by rfl, ?_⟩) ?_
                      · intro w; go_simp
                      refine wpAny_take (i := 19) (v := .int .i64 n) rfl (by kernel_rfl) (by kernel_rfl) (by kernel_rfl) (fun _ _ _ h => h) (Or.inl ⟨by rfl, ?_⟩) ?_
                      · intro w; go_simp
                      refine wpAny_take (i := 20) (v := .int .i64 0) rfl (by kernel_rfl) (by kernel_rfl) (by kernel_rfl) (fun _ _ _ h => h) (Or.inl ⟨by rfl, ?_⟩) ?_
                      · intro w; go_simp
                      refine wpAny_ready (rs := [21]) (by kernel_rfl) (by simp) (AllReady.cons rfl (fun K hK => ?_) AllReady.nil)
                      go_simp
                      refine hK _ _ ?_
                      clear hK K
                      have hE5 : BoxN (W3.alloc (.cells zc 27)) W3.heap.size 27 (nd 0 []).cells := by rw [zc_eq]; exact BoxN.new W3 27 zc
                      change wpAny _ _ _ _ _ _ _ (W3.alloc (.cells zc 27))
                      have hs1 := store_ex _ _ _ y3 hE5
                      have hz1 : y3.cells.size = 7 := rfl
                      refine wpAny_ready (rs := [22]) (by kernel_rfl) (by simp) (AllReady.cons rfl (fun K hK => ?_) AllReady.nil)
                      go_simp
                      refine hK _ _ ?_
                      clear hK K
                      clear hs1
                      refine wpAny_ready (rs := [23]) (by kernel_rfl) (by simp) (AllReady.cons rfl (fun K hK => ?_) AllReady.nil)
                      go_simp
                      refine hK _ _ ?_
                      clear hK K
                      refine wpAny_ready (rs := [24]) (by kernel_rfl) (by simp) (AllReady.cons rfl (fun K hK => ?_) AllReady.nil)
                      go_simp
                      refine hK _ _ ?_
                      clear hK K
                      refine wpAny_done (by kernel_rfl) ?_ _
                      obtain ⟨K6, B6, g6⟩ := Hd.stored (z := y3) (H3.alloc (.cells zc 27)) hE5 H3.1.lt
                      have I6 := (Ex.Ou.gr g6 (Q := fun _ => True) (fun b hb hlt => ⟨fun e => by cases e; exact absurd hb (Nat.lt_irrefl _), trivial⟩) (Ex.Ou.gr (World.grownBy_alloc W3 (.cells zc 27) none) (Q := fun b => b < W3.heap.size) (fun b hb hlt => ⟨by simp, hlt⟩) hyo)).inn
                      generalize World.setRow _ _ y3.cells = W6 at *
                      have cE3 := K6.1.cell
                      have cY3 := B6.cell
                      have hs3 := hsm.out y3 _ K6 I6 hye
                      rw [cells_eq] at cE3 cY3
                      rw [val_eq, val_eq] at hs3
                      have K6 : Hid (Hd e w W6) := K6
                      clear B6 g6 I6 hE5 hyo hb3 H3
                      go_wp2_with (go_at_call 10; refine hs3.mono ?_; clear hs3; rintro r W4 ⟨rfl, hb4⟩; have K4 : Hid (Hd e w W4) := Hd.next (e := e) (w := w) K6.out hb4; clear hb4)
                      exact ⟨⟨k + 1, by go_num, by omega, by omega, K4.out⟩, by simp [intOf]; omega⟩
                    · go_simp
                      refine hK _ _ ?_
                      clear hK K
                      change wpAny _ _ _ _ _ _ _ (World.alloc (World.drew _) (.cells zc 27))
                      refine wpAny_ready (rs := [16]) (by kernel_rfl) (by simp) (AllReady.cons rfl (fun K hK => ?_) AllReady.nil)
                      go_simp
                      go_at_call 8
                      refine (hpa2.out _).mono ?_
                      rintro r W3 ⟨⟨y3, rfl, hye, hyo⟩, hb3⟩
                      refine hK _ _ ?_
                      clear hK K
                      have H3 : Hd e w W3 := (KD.out.alloc (.cells zc 27)).next hb3
                      have hE5 : BoxN W3 wr.heap.size 27 zc := BoxN.below (show BoxN (wr.alloc (.cells zc 27)).drew wr.heap.size 27 zc from BoxN.new wr 27 zc) hb3 (by show wr.heap.size < (wr.alloc (.cells zc 27)).heap.size; simp)
                      rw [← zc_eq] at hE5
                      refine wpAny_take (i := 17) (v := .tuple #[.agg y3.cells, .int .i64 n, .int .i64 0]) rfl (by kernel_rfl) (by kernel_rfl) (by kernel_rfl) (fun _ _ _ h => h) (Or.inl ⟨by rfl, ?_⟩) ?_
                      · intro w; go_simp
                      refine wpAny_take (i := 18) (v := .agg y3.cells) rfl (by kernel_rfl) (by kernel_rfl) (by kernel_rfl) (fun _ _ _ h => h) (Or.inl ⟨by rfl, ?_⟩) ?_
                      · intro w; go_simp
                      refine wpAny_take (i := 19) (v := .int .i64 n) rfl (by kernel_rfl) (by kernel_rfl) (by kernel_rfl) (fun _ _ _ h => h) (Or.inl ⟨by rfl, ?_⟩) ?_
                      · intro w; go_simp
                      refine wpAny_take (i := 20) (v := .int .i64 0) rfl (by kernel_rfl) (by kernel_rfl) (by kernel_rfl) (fun _ _ _ h => h) (Or.inl ⟨by rfl, ?_⟩) ?_
                      · intro w; go_simp
                      have hs1 := store_ex _ _ _ y3 hE5
                      have hz1 : y3.cells.size = 7 := rfl
                      refine wpAny_ready (rs := [22]) (by kernel_rfl) (by simp) (AllReady.cons rfl (fun K hK => ?_) AllReady.nil)
                      go_simp
                      refine hK _ _ ?_
                      clear hK K
                      clear hs1
                      refine wpAny_ready (rs := [23]) (by kernel_rfl) (by simp) (AllReady.cons rfl (fun K hK => ?_) AllReady.nil)
                      go_simp
                      refine hK _ _ ?_
                      clear hK K
                      refine wpAny_ready (rs := [24]) (by kernel_rfl) (by simp) (AllReady.cons rfl (fun K hK => ?_) AllReady.nil)
                      go_simp
                      refine hK _ _ ?_
                      clear hK K
                      refine wpAny_done (by kernel_rfl) ?_ _
                      obtain ⟨K6, B6, g6⟩ := Hd.stored (z := y3) H3 hE5 KD.out.1.lt
                      have I6 := (Ex.Ou.gr g6 (Q := fun _ => True) (fun b hb hlt => ⟨fun e => by cases e; exact absurd (show (wr.alloc (.cells zc 27)).heap.size ≤ wr.heap.size from hb) (by simp), trivial⟩) hyo).inn
                      generalize World.setRow _ _ y3.cells = W6 at *
                      have cE3 := K6.1.cell
                      have cY3 := B6.cell
                      have hs3 := hsm.out y3 _ K6 I6 hye
                      rw [cells_eq] at cE3 cY3
                      rw [val_eq, val_eq] at hs3
                      have K6 : Hid (Hd e w W6) := K6
                      clear B6 g6 I6 hE5 hyo hb3 H3
                      go_wp2_with (go_at_call 10; refine hs3.mono ?_; clear hs3; rintro r W4 ⟨rfl, hb4⟩; have K4 : Hid (Hd e w W4) := Hd.next (e := e) (w := w) K6.out hb4; clear hb4)
                      exact ⟨⟨k + 1, by go_num, by omega, by omega, K4.out⟩, by simp [intOf]; omega⟩
                  · have ge : (er == 0) = false := by simpa using her
                    clear hnl2
                    have KD : Hid (Hd e w (World.drew _)) := ⟨KK.1, KK.2.drew⟩
                    have hpa2 : Hid (∀ W, Calls Tryd.prog 8 #[.string A4] W fun r w' => (∃ y : Ex, r = .returned (.tuple #[.agg y.cells, .int .i64 n, .int .i64 er]) ∧ y.er = x ∧ y.Ou (W.heap.size ≤ ·) w') ∧ Below W.heap.size W w') := hpa
                    clear hpa
                    go_wp2_with fail
                    refine wp_region_any (by kernel_rfl) ?_
                    try (change wpAny _ _ _ _ _ _ _ (World.drew _))
                    refine wpAny_take (i := 0) (v := .string T) rfl (by kernel_rfl) (by kernel_rfl) (by kernel_rfl) (fun _ _ _ h => h) (Or.inl ⟨by rfl, ?_⟩) ?_
                    · intro w; go_simp
                    refine wpAny_take (i := 1) (v := .int .i64 i) rfl (by kernel_rfl) (by kernel_rfl) (by kernel_rfl) (fun _ _ _ h => h) (Or.inl ⟨by rfl, ?_⟩) ?_
                    · intro w; go_simp
                    refine wpAny_take (i := 2) (v := .string (T.extract 0 i)) rfl (by kernel_rfl) (by kernel_rfl) (by kernel_rfl) (fun _ _ _ h => h) (Or.inl ⟨by rfl, ?_⟩) ?_
                    · intro w; go_simp
                    refine wpAny_take (i := 3) (v := .string A1) rfl (by kernel_rfl) (by kernel_rfl) (by kernel_rfl) (fun _ _ _ h => h) (Or.inl ⟨by rfl, ?_⟩) ?_
                    · intro w; go_simp
                    refine wpAny_take (i := 4) (v := .string T) rfl (by kernel_rfl) (by kernel_rfl) (by kernel_rfl) (fun _ _ _ h => h) (Or.inl ⟨by rfl, ?_⟩) ?_
                    · intro w; go_simp
                    refine wpAny_take (i := 5) (v := .int .i64 i) rfl (by kernel_rfl) (by kernel_rfl) (by kernel_rfl) (fun _ _ _ h => h) (Or.inl ⟨by rfl, ?_⟩) ?_
                    · intro w; go_simp
                    refine wpAny_take (i := 6) (v := .int .i64 ((i : Int) + 1)) rfl (by kernel_rfl) (by kernel_rfl) (by kernel_rfl) (fun _ _ _ h => h) (Or.inl ⟨by rfl, ?_⟩) ?_
                    · intro w; go_simp; exact IntWalk.i64_in _ (by omega)
                    refine wpAny_take (i := 7) (v := .int .i64 k) rfl (by kernel_rfl) (by kernel_rfl) (by kernel_rfl) (fun _ _ _ h => h) (Or.inl ⟨by rfl, ?_⟩) ?_
                    · intro w; go_simp
                    refine wpAny_take (i := 8) (v := .string (T.extract (i + 1) k)) rfl (by kernel_rfl) (by kernel_rfl) (by kernel_rfl) (fun _ _ _ h => h) (Or.inl ⟨by rfl, ?_⟩) ?_
                    · intro w; go_simp; rw [if_pos (by omega), if_pos (by omega)]
                    refine wpAny_take (i := 9) (v := .string A2) rfl (by kernel_rfl) (by kernel_rfl) (by kernel_rfl) (fun _ _ _ h => h) (Or.inl ⟨by rfl, ?_⟩) ?_
                    · intro w; go_simp
                    refine wpAny_take (i := 10) (v := .string A3) rfl (by kernel_rfl) (by kernel_rfl) (by kernel_rfl) (fun _ _ _ h => h) (Or.inl ⟨by rfl, ?_⟩) ?_
                    · intro w; go_simp
                    refine wpAny_take (i := 11) (v := .string T) rfl (by kernel_rfl) (by kernel_rfl) (by kernel_rfl) (fun _ _ _ h => h) (Or.inl ⟨by rfl, ?_⟩) ?_
                    · intro w; go_simp
                    refine wpAny_take (i := 12) (v := .int .i64 k) rfl (by kernel_rfl) (by kernel_rfl) (by kernel_rfl) (fun _ _ _ h => h) (Or.inl ⟨by rfl, ?_⟩) ?_
                    · intro w; go_simp
                    refine wpAny_take (i := 13) (v := .int .i64 ((k : Int) + 1)) rfl (by kernel_rfl) (by kernel_rfl) (by kernel_rfl) (fun _ _ _ h => h) (Or.inl ⟨by rfl, ?_⟩) ?_
                    · intro w; go_simp; exact IntWalk.i64_in _ (by omega)
                    refine wpAny_take (i := 14) (v := .string (T.extract (k + 1) T.size)) rfl (by kernel_rfl) (by kernel_rfl) (by kernel_rfl) (fun _ _ _ h => h) (Or.inl ⟨by rfl, ?_⟩) ?_
                    · intro w; go_simp; intro h; exfalso; have := h (by omega); omega
                    refine wpAny_take (i := 15) (v := .string A4) rfl (by kernel_rfl) (by kernel_rfl) (by kernel_rfl) (fun _ _ _ h => h) (Or.inl ⟨by rfl, ?_⟩) ?_
                    · intro w; go_simp
                    refine wpAny_ready (rs := [16, 21]) (by kernel_rfl) (by simp) (AllReady.cons rfl (fun K hK => ?_) (AllReady.cons rfl (fun K hK => ?_) AllReady.nil))
                    · go_simp
                      go_at_call 8
                      refine (hpa2.out _).mono ?_
                      rintro r W3 ⟨⟨y3, rfl, hye, hyo⟩, hb3⟩
                      refine hK _ _ ?_
                      clear hK K
                      have H3 : Hd e w W3 := KD.out.next hb3
                      refine wpAny_take (i := 17) (v := .tuple #[.agg y3.cells, .int .i64 n, .int .i64 er]) rfl (by kernel_rfl) (by kernel_rfl) (by kernel_rfl) (fun _ _ _ h => h) (Or.inl ⟨by rfl, ?_⟩) ?_
                      · intro w; go_simp
                      refine wpAny_take (i := 18) (v := .agg y3.cells) rfl (by kernel_rfl) (by kernel_rfl) (by kernel_rfl) (fun _ _ _ h => h) (Or.inl ⟨by rfl, ?_⟩) ?_
                      · intro w; go_simp
                      refine wpAny_take (i := 19) (v := .int .i64 n) rfl (by kernel_rfl) (by kernel_rfl) (by kernel_rfl) (fun _ _ _ h => h) (Or.inl ⟨by rfl, ?_⟩) ?_
                      · intro w; go_simp
                      refine wpAny_take (i := 20) (v := .int .i64 er) rfl (by kernel_rfl) (by kernel_rfl) (by kernel_rfl) (fun _ _ _ h => h) (Or.inl ⟨by rfl, ?_⟩) ?_
                      · intro w; go_simp
                      refine wpAny_ready (rs := [21]) (by kernel_rfl) (by simp) (AllReady.cons rfl (fun K hK => ?_) AllReady.nil)
                      go_simp
                      refine hK _ _ ?_
                      clear hK K
                      have hE5 : BoxN (W3.alloc (.cells zc 27)) W3.heap.size 27 (nd 0 []).cells := by rw [zc_eq]; exact BoxN.new W3 27 zc
                      change wpAny _ _ _ _ _ _ _ (W3.alloc (.cells zc 27))
                      have hs1 := store_ex _ _ _ y3 hE5
                      have hz1 : y3.cells.size = 7 := rfl
                      refine wpAny_ready (rs := [22]) (by kernel_rfl) (by simp) (AllReady.cons rfl (fun K hK => ?_) AllReady.nil)
                      go_simp
                      refine hK _ _ ?_
                      clear hK K
                      clear hs1
                      refine wpAny_ready (rs := [23]) (by kernel_rfl) (by simp) (AllReady.cons rfl (fun K hK => ?_) AllReady.nil)
                      go_simp
                      refine hK _ _ ?_
                      clear hK K
                      refine wpAny_ready (rs := [24]) (by kernel_rfl) (by simp) (AllReady.cons rfl (fun K hK => ?_) AllReady.nil)
                      go_simp
                      refine hK _ _ ?_
                      clear hK K
                      refine wpAny_done (by kernel_rfl) ?_ _
                      obtain ⟨K6, B6, g6⟩ := Hd.stored (z := y3) (H3.alloc (.cells zc 27)) hE5 H3.1.lt
                      have I6 := (Ex.Ou.gr g6 (Q := fun _ => True) (fun b hb hlt => ⟨fun e => by cases e; exact absurd hb (Nat.lt_irrefl _), trivial⟩) (Ex.Ou.gr (World.grownBy_alloc W3 (.cells zc 27) none) (Q := fun b => b < W3.heap.size) (fun b hb hlt => ⟨by simp, hlt⟩) hyo)).inn
                      generalize World.setRow _ _ y3.cells = W6 at *
                      have K6 : Hid (Hd e w W6) := K6
                      clear B6 g6 I6 hE5 hyo hb3 H3
                      go_wp2_with fail
                      exact ⟨⟨k + 1, by go_num, by omega, by omega, K6.out⟩, by simp [intOf]; omega⟩
                    · go_simp
                      refine hK _ _ ?_
                      clear hK K
                      change wpAny _ _ _ _ _ _ _ (World.alloc (World.drew _) (.cells zc 27))
                      refine wpAny_ready (rs := [16]) (by kernel_rfl) (by simp) (AllReady.cons rfl (fun K hK => ?_) AllReady.nil)
                      go_simp
                      go_at_call 8
                      refine (hpa2.out _).mono ?_
                      rintro r W3 ⟨⟨y3, rfl, hye, hyo⟩, hb3⟩
                      refine hK _ _ ?_
                      clear hK K
                      have H3 : Hd e w W3 := (KD.out.alloc (.cells zc 27)).next hb3
                      have hE5 : BoxN W3 wr.heap.size 27 zc := BoxN.below (show BoxN (wr.alloc (.cells zc 27)).drew wr.heap.size 27 zc from BoxN.new wr 27 zc) hb3 (by show wr.heap.size < (wr.alloc (.cells zc 27)).heap.size; simp)
                      rw [← zc_eq] at hE5
                      refine wpAny_take (i := 17) (v := .tuple #[.agg y3.cells, .int .i64 n, .int .i64 er]) rfl (by kernel_rfl) (by kernel_rfl) (by kernel_rfl) (fun _ _ _ h => h) (Or.inl ⟨by rfl, ?_⟩) ?_
                      · intro w; go_simp
                      refine wpAny_take (i := 18) (v := .agg y3.cells) rfl (by kernel_rfl) (by kernel_rfl) (by kernel_rfl) (fun _ _ _ h => h) (Or.inl ⟨by rfl, ?_⟩) ?_
                      · intro w; go_simp
                      refine wpAny_take (i := 19) (v := .int .i64 n) rfl (by kernel_rfl) (by kernel_rfl) (by kernel_rfl) (fun _ _ _ h => h) (Or.inl ⟨by rfl, ?_⟩) ?_
                      · intro w; go_simp
                      refine wpAny_take (i := 20) (v := .int .i64 er) rfl (by kernel_rfl) (by kernel_rfl) (by kernel_rfl) (fun _ _ _ h => h) (Or.inl ⟨by rfl, ?_⟩) ?_
                      · intro w; go_simp
                      have hs1 := store_ex _ _ _ y3 hE5
                      have hz1 : y3.cells.size = 7 := rfl
                      refine wpAny_ready (rs := [22]) (by kernel_rfl) (by simp) (AllReady.cons rfl (fun K hK => ?_) AllReady.nil)
                      go_simp
                      refine hK _ _ ?_
                      clear hK K
                      clear hs1
                      refine wpAny_ready (rs := [23]) (by kernel_rfl) (by simp) (AllReady.cons rfl (fun K hK => ?_) AllReady.nil)
                      go_simp
                      refine hK _ _ ?_
                      clear hK K
                      refine wpAny_ready (rs := [24]) (by kernel_rfl) (by simp) (AllReady.cons rfl (fun K hK => ?_) AllReady.nil)
                      go_simp
                      refine hK _ _ ?_
                      clear hK K
                      refine wpAny_done (by kernel_rfl) ?_ _
                      obtain ⟨K6, B6, g6⟩ := Hd.stored (z := y3) H3 hE5 KD.out.1.lt
                      have I6 := (Ex.Ou.gr g6 (Q := fun _ => True) (fun b hb hlt => ⟨fun e => by cases e; exact absurd (show (wr.alloc (.cells zc 27)).heap.size ≤ wr.heap.size from hb) (by simp), trivial⟩) hyo).inn
                      generalize World.setRow _ _ y3.cells = W6 at *
                      have K6 : Hid (Hd e w W6) := K6
                      clear B6 g6 I6 hE5 hyo hb3 H3
                      go_wp2_with fail
                      exact ⟨⟨k + 1, by go_num, by omega, by omega, K6.out⟩, by simp [intOf]; omega⟩
                · have gg1 : (((T[i]'(by omega)).toNat : Int) != 40) = false := by rw [g1]; rfl
                  have gg2 : (((T[k]'(by omega)).toNat : Int) != 41) = true := by
                    simp only [bne_iff_ne, ne_eq]; intro h; exact g2 (UInt8.toNat_inj.1 (by show _ = 41; omega))
                  go_wp2_with fail
                  exact ⟨⟨k + 1, by go_num, by omega, by omega, KK⟩, by simp [intOf]; omega⟩
              · have gg1 : (((T[i]'(by omega)).toNat : Int) != 40) = true := by
                  simp only [bne_iff_ne, ne_eq]; intro h; exact g1 (UInt8.toNat_inj.1 (by show _ = 40; omega))
                go_wp2_with fail
                exact ⟨⟨k + 1, by go_num, by omega, by omega, KK⟩, by simp [intOf]; omega⟩
            · go_wp2_with fail
              exact ⟨⟨i + 1, by go_num, by omega, KK⟩, by simp [intOf]; omega⟩
        · go_wp2_with fail
          go_ret
          exact ⟨by simp, KI.2⟩
  · have g : (check e != 0) = true := by simpa using h0
    have g2 : (check e == 0) = false := by simpa using h0
    have hp2 : prR e = [] := by unfold prR; rw [if_neg h0]
    rw [hp2] at hpr
    go_enter Tryd.func6, Tryd.ntmps6
    go_wp2_with (first
      | (go_at_call 11; refine hcs.mono ?_; clear hcs; rintro r W1 ⟨rfl, hb1⟩; rw [← cells_eq] at hb1; have K1 : Hid (Hd e w W1) := H0.out.next hb1; have cE1 := K1.out.1.cell; rw [cells_eq] at cE1; clear hb1)
      | (go_at_call 11; refine (hpr _ K1.out).mono ?_; clear hpr; rintro r W2 ⟨rfl, hb2⟩; have K2 : Hid (Hd e w W2) := Hd.next (e := e) (w := w) K1.out hb2; clear hb2 cE1))
    go_ret
    exact ⟨by simp, K2.out.2⟩
end Go.Proofs.YtbeohmcmphebhaaDoor
