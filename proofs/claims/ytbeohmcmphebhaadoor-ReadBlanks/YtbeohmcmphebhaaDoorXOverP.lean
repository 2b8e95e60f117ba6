import Derived.Test.YtbeohmcmphebhaaDoorXWholeA
namespace Go.Proofs.YtbeohmcmphebhaaDoor
open Go.RowKit
set_option linter.unusedVariables false
theorem box1_set {W : World} {B : Nat} {t : TypeId} {v : Value} (h : BoxN W B t #[v]) (u : Value) : BoxN (W.setCell ⟨B, 0, none⟩ u) B t #[u] := setCell_box h
structure PaK (T : ByteArray) (B V : Nat) (w : World) (x : Ex × Tk) (w' : World) (y : Ex) (w1 : World) : Prop where
  er : y.er = x.1
  ou : y.Ou (w.heap.size ≤ ·) w'
  g1 : w.grownBy w1 (some B)
  g2 : w1.grownBy w' (some V)
  bB : BoxN w' B 60 (pcells T x.2)
  bV : BoxN w' V 27 y.cells
/-- What the part does. -/
def PaR (T : ByteArray) (B V : Nat) (w : World) (R : Rs) (e : Ending) (w' : World) : Prop :=
  match R with
  | .ok x => e = .returned (.tuple #[]) ∧ ∃ (y : Ex) (w1 : World), PaK T B V w x w' y w1
  | .error s => e = thrown T.size s ∧ w.grownBy w' (some B)
set_option maxRecDepth 20000 in
set_option maxHeartbeats 4000000 in
theorem part_does (T : ByteArray) (B V n : Nat) (hT : T.size ≤ 1000000) (t : Tk) (w : World) (ht : t.of T.data.toList) (hn : t.s.length < n) (hB : BoxN w B 60 (pcells T t)) (v0 : Array Value) (h7 : v0.size = 7) (hV : BoxN w V 27 v0) (hne : V ≠ B) :
    Calls Tryd.prog 14 #[.pointer (some ⟨B, 0, none⟩), .pointer (some ⟨V, 0, none⟩)] w fun e w' => PaR T B V w (altP (preP n) t) e w' := by
  have h1 := altp_does T B hT n t w ht hn hB
  have hVl := hV.lt
  clear ht hB
  cases hp : altP (preP n) t with
  | error s =>
    rw [hp] at h1
    unfold PR at h1
    unfold PaR
    simp only at h1 ⊢
    unfold thrown at h1 ⊢
    go_enter Tryd.func14, Tryd.ntmps14
    go_wp2_with (go_at_call 15; refine h1.mono ?_; rintro e w1 ⟨rfl, hg1⟩)
    exact ⟨rfl, rfl, hg1⟩
  | ok x =>
    rw [hp] at h1
    unfold PR at h1
    simp only at h1
    unfold Says at h1
    go_enter Tryd.func14, Tryd.ntmps14
    go_wp2_with (first
      | (go_at_call 15; refine h1.mono ?_; rintro e w1 ⟨⟨y, rfl, hye, hyo⟩, hb1, hg1⟩; have HK : Hid (BoxN w1 V 27 v0 ∧ BoxN w1 B 60 (pcells T x.2) ∧ w.grownBy w1 (some B) ∧ y.Ou (w.heap.size ≤ ·) w1) := ⟨hV.kept hg1 (fun e => hne (Option.some.inj e)), hb1, hg1, hyo⟩; clear hb1 hg1 hyo)
      | (refine wpList_store_box rfl 27 _ _ rfl V _ rfl rfl v0 HK.out.1 Tryd.info27 h7 (by simp [Value.oneCell']) ?_; intro w5 hx5 hg5))
    refine bodyPost_end (results_none rfl _ _ _) rfl ⟨rfl, y, w1, ⟨hye, ?_, HK.out.2.2.1, hg5, HK.out.2.1.kept hg5 (fun e => hne (Option.some.inj e).symm), hx5⟩⟩
    exact HK.out.2.2.2.gr hg5 (fun b hb _ => ⟨fun e => by have := Option.some.inj e; omega, hb⟩)
/-- What goOver does. -/
def GoR (T : ByteArray) (V : Nat) (w : World) (R : Except (List UInt8) Ex) (e : Ending) (w' : World) : Prop :=
  match R with
  | .ok x => e = .returned (.tuple #[.int .i64 0, .int .i64 0]) ∧ w.grownBy w' (some V) ∧ ∃ y : Ex, y.er = x ∧ BoxN w' V 27 y.cells ∧ y.Ou (w.heap.size ≤ ·) w'
  | .error s => e = .returned (.tuple #[.int .i64 ((T.size : Int) - s.length), .int .i64 4]) ∧ w.grownBy w' (some V)
/-- The two results' boxes. -/
structure Wq (w W : World) (V : Nat) (v : Array Value) : Prop where
  ba : BoxN W w.heap.size 3 #[.int .i64 0]
  br : BoxN W (w.heap.size + 1) 28 #[.int .i64 0]
  bv : BoxN W V 27 v
  gr : w.grownBy W (some V)
  lt : V < w.heap.size
theorem Wq.step {w W W1 : World} {V P : Nat} {v : Array Value} (h : Wq w W V v) (hg : W.grownBy W1 (some P)) (hP : w.heap.size + 1 < P) : Wq w W1 V v :=
  ⟨h.ba.kept hg (fun e => by have := Option.some.inj e; omega), h.br.kept hg (fun e => by have := Option.some.inj e; omega), h.bv.kept hg (fun e => by have := Option.some.inj e; have := h.lt; omega),
   ⟨hg.os.trans h.gr.os, hg.tape.trans h.gr.tape, hg.output.trans h.gr.output, Nat.le_trans h.gr.size hg.size, fun k hk hn => (hg.block k (Nat.lt_of_lt_of_le hk h.gr.size) (fun e => by have := Option.some.inj e; omega)).trans (h.gr.block k hk hn)⟩, h.lt⟩
theorem Wq.setV {w W W1 : World} {V : Nat} {v u : Array Value} (h : Wq w W V v) (hb : BoxN W1 V 27 u) (hg : W.grownBy W1 (some V)) : Wq w W1 V u :=
  ⟨h.ba.kept hg (fun e => by have := Option.some.inj e; have := h.lt; omega), h.br.kept hg (fun e => by have := Option.some.inj e; have := h.lt; omega), hb, gr_trans h.gr hg, h.lt⟩
theorem Wq.alloc {w W : World} {V : Nat} {v : Array Value} (h : Wq w W V v) (o : Obj) : Wq w (W.alloc o) V v := ⟨h.ba.alloc o, h.br.alloc o, h.bv.alloc o, gr_alloc h.gr o, h.lt⟩
theorem Wq.start (w : World) (V : Nat) (v : Array Value) (hV : BoxN w V 27 v) : Wq w ((w.alloc (.cells #[.int .i64 0] 3)).alloc (.cells #[.int .i64 0] 28)) V v := by
  have h2 := (BoxN.new w 3 #[.int .i64 0]).alloc (.cells #[.int .i64 0] 28)
  have h3 := BoxN.new (w.alloc (.cells #[.int .i64 0] 3)) 28 #[.int .i64 0]
  rw [show (w.alloc (.cells #[.int .i64 0] 3)).heap.size = w.heap.size + 1 from by simp] at h3
  exact ⟨h2, h3, (hV.alloc _).alloc _, gr_alloc (gr_alloc (gr_refl V w) _) _, hV.lt⟩
/-- A fault comes through the door. -/
theorem Wq.caught {w W : World} {V : Nat} {v : Array Value} {a : Int} (h : Wq w W V v) (W' : World) (hW : W' = ((W.alloc (.cells #[.int .i64 a] 55)).setCell ⟨w.heap.size, 0, none⟩ (.int .i64 a)).setCell ⟨w.heap.size + 1, 0, none⟩ (.int .i64 4)) : BoxN W' w.heap.size 3 #[.int .i64 a] ∧ BoxN W' (w.heap.size + 1) 28 #[.int .i64 4] ∧ w.grownBy W' (some V) := by
  have hA := h.alloc (.cells #[.int .i64 a] 55)
  rw [hW]
  refine ⟨box_other _ (box1_set hA.ba _) (by omega), box1_set (box_other _ hA.br (by omega)) _, ?_⟩
  exact gr_own (gr_own hA.gr (grownBy_setCell' _ w.heap.size _) (Nat.le_refl _)) (grownBy_setCell' _ (w.heap.size + 1) _) (Nat.le_succ _)
theorem dropZ (T : ByteArray) : T.data.toList.drop 0 = T.data.toList := rfl
set_option maxRecDepth 20000 in
set_option maxHeartbeats 4000000 in
theorem goOver_large (T : ByteArray) (V : Nat) (w : World) (f : Value) (hL : 2000 < T.size) (v0 : Array Value) (h7 : v0.size = 7) (hV : BoxN w V 27 v0) :
    Calls Tryd.prog 13 #[.string T, .bool false, f] w fun e w' => e = .returned (.tuple #[.int .i64 0, .int .i64 2]) ∧ w.grownBy w' (some V) := by
  have W0 := Wq.start w V v0 hV
  have g1 : decide ((2000 : Int) < (T.size : Int)) = true := decide_eq_true (by omega)
  clear W0 hV
  go_enter Tryd.func13, Tryd.ntmps13
  go_wp2_with fail
  refine bodyPost_ret (by simp [results, Tryd.results13, go_sem]) rfl ⟨rfl, gr_alloc (gr_alloc (gr_refl V w) _) _⟩
theorem q12_eq (T : ByteArray) : qcells T z10.toList = #[.string T, .bool false, .int .u8 0, .int .i64 0, .int .i64 0, .int .i64 0, .int .u64 0, .int .u64 0, .int .u64 0, .int .u64 0, .string ⟨#[]⟩, .slice none 0 0] := rfl
theorem takeL_of (l : List UInt8) (t : Tk) (h : takeL l = .ok t) : t.of l ∧ t.s.length ≤ l.length := by
  unfold takeL at h
  split at h
  · cases h
  · rename_i h4
    cases h
    have := tok_of l l (List.suffix_refl _) h4
    exact ⟨this, this.2.1.length_le⟩
theorem parse_L (l : List UInt8) : parse l = thn (takeL l) fun t => thn (altP (preP (l.length + 1)) t) fun x => if x.2.k = 0 then .ok x.1 else .error x.2.s := by
  unfold parse takeL
  split
  · rfl
  · rfl
set_option maxRecDepth 20000 in
set_option maxHeartbeats 8000000 in
theorem goOver_any (T : ByteArray) (V : Nat) (w : World) (hL : T.size ≤ 2000) (v0 : Array Value) (h7 : v0.size = 7) (hV : BoxN w V 27 v0) :
    Calls Tryd.prog 13 #[.string T, .bool false, .func (.func 14) #[] #[.pointer (some ⟨V, 0, none⟩)]] w fun e w' => GoR T V w (parse T.data.toList) e w' := by
  have hmf : ∀ (fn : Fn) (first cap : Array Value) (w : World), (Instr.makeFunc fn first cap).run Tryd.prog w = .ok (.func fn first cap) w := fun _ _ _ _ => rfl
  have g1 : decide ((2000 : Int) < (T.size : Int)) = false := decide_eq_false (by omega)
  have W0 := Wq.start w V v0 hV
  have W1 : Hid (Wq w (((w.alloc (.cells #[.int .i64 0] 3)).alloc (.cells #[.int .i64 0] 28)).alloc (.cells (qcells T z10.toList) 60)) V v0) := W0.alloc _
  have bP := BoxN.new ((w.alloc (.cells #[.int .i64 0] 3)).alloc (.cells #[.int .i64 0] 28)) 60 (qcells T z10.toList)
  rw [show ((w.alloc (.cells #[.int .i64 0] 3)).alloc (.cells #[.int .i64 0] 28)).heap.size = w.heap.size + 1 + 1 from by simp] at bP
  have htk := take_gen T (w.heap.size + 1 + 1) z10.toList 0 _ (by omega) (Nat.zero_le _) rfl rfl bP
  rw [dropZ] at htk
  rw [parse_L]
  have hlt := hV.lt
  clear bP hV W0
  rw [q12_eq] at htk W1
  have hln : T.data.toList.length = T.size := llen T
  cases hu : takeL T.data.toList with
  | error s =>
    rw [hu] at htk
    rw [thn_error]
    unfold TakeR at htk
    unfold GoR
    simp only at htk ⊢
    unfold thrown at htk
    clear hu
    go_enter_defers Tryd.func13, Tryd.ntmps13
    go_wp2_with (go_at_call 24; refine htk.mono ?_; rintro e w1 ⟨rfl, hg1⟩; have W2 : Hid _ := W1.out.step hg1 (by omega); clear hg1 htk W1)
    refine leaves_cons (f := 23) (args := #[.pointer (some ⟨w.heap.size, 0, none⟩), .pointer (some ⟨w.heap.size + 1, 0, none⟩)]) (by simp) (by simp [go_sem]) ?_
    refine (catch_panicking w.heap.size (w.heap.size + 1) _ _ _ _ W2.out.ba W2.out.br (by omega)).mono ?_
    rintro e u' w'' ⟨rfl, rfl, hw⟩
    obtain ⟨k1, k2, k3⟩ := W2.out.caught w'' hw
    have c1 := k1.cell
    have c2 := k2.cell
    clear hw
    simp [Leaves, settle, results, Tryd.results13, go_sem, c1, c2]
    exact k3
  | ok t =>
    rw [hu] at htk
    rw [thn_ok]
    unfold TakeR at htk
    simp only at htk
    obtain ⟨hof, hts⟩ := takeL_of _ _ hu
    clear hu
    generalize hN : T.data.toList.length + 1 = N at *
    have hpa : ∀ W, BoxN W (w.heap.size + 1 + 1) 60 (pcells T t) → BoxN W V 27 v0 → _ := fun W h1 h2 => part_does T (w.heap.size + 1 + 1) V N (by omega) t W hof (by omega) h1 v0 h7 h2 (by omega)
    clear hof hts hN
    cases hp : altP (preP N) t with
    | error s =>
      rw [hp] at hpa
      rw [thn_error]
      unfold PaR at hpa
      unfold GoR
      simp only at hpa ⊢
      unfold thrown at hpa
      clear hp
      go_enter_defers Tryd.func13, Tryd.ntmps13
      go_wp2_with (first
        | (go_at_call 24; refine htk.mono ?_; rintro e w1 ⟨rfl, hb1, hg1⟩; have W2 : Hid _ := W1.out.step hg1 (by omega); clear hg1 htk W1)
        | (go_at_call 14; refine (hpa _ hb1 W2.out.bv).mono ?_; rintro e w3 ⟨rfl, hg3⟩; have W3 : Hid _ := W2.out.step hg3 (by omega); clear hg3 hpa))
      refine leaves_cons (f := 23) (args := #[.pointer (some ⟨w.heap.size, 0, none⟩), .pointer (some ⟨w.heap.size + 1, 0, none⟩)]) (by simp) (by simp [go_sem]) ?_
      refine (catch_panicking w.heap.size (w.heap.size + 1) _ _ _ _ W3.out.ba W3.out.br (by omega)).mono ?_
      rintro e u' w'' ⟨rfl, rfl, hw⟩
      obtain ⟨k1, k2, k3⟩ := W3.out.caught w'' hw
      have c1 := k1.cell
      have c2 := k2.cell
      clear hw
      simp [Leaves, settle, results, Tryd.results13, go_sem, c1, c2]
      exact k3
    | ok x =>
      rw [hp] at hpa
      rw [thn_ok]
      unfold PaR at hpa
      simp only at hpa
      clear hp
      have hwt : ∀ W, BoxN W (w.heap.size + 1 + 1) 60 (pcells T x.2) → _ := fun W hW => want_any T (w.heap.size + 1 + 1) x.2 0 W hW
      rw [show (((0 : UInt8).toNat : Nat) : Int) = 0 from rfl] at hwt
      by_cases h0 : x.2.k = 0
      · simp only [if_pos h0] at hwt
        rw [if_pos h0]
        unfold GoR
        simp only
        clear h0
        go_enter_defers Tryd.func13, Tryd.ntmps13
        go_wp2_with (first
          | (go_at_call 24; refine htk.mono ?_; rintro e w1 ⟨rfl, hb1, hg1⟩; have W2 : Hid _ := W1.out.step hg1 (by omega); clear hg1 htk W1)
          | (go_at_call 14; refine (hpa _ hb1 W2.out.bv).mono ?_; rintro e w5 ⟨rfl, y, w4, ⟨hye, hyo, hgA, hgV, hb4, hV4⟩⟩; have W4 : Hid _ := (W2.out.step hgA (by omega)).setV hV4 hgV; have HY : Hid (y.Ou (fun b => w.heap.size + 1 + 1 < b) w5 ∧ y.er = x.1) := ⟨hyo.gr (row := none) ⟨rfl, rfl, rfl, Nat.le_refl _, fun _ _ _ => rfl⟩ (fun b hb _ => ⟨by simp, by have := hb1.lt; omega⟩), hye⟩; have hls : w.heap.size + 1 + 1 < w1.heap.size := hb1.lt; clear hpa hgA hgV hV4 hyo hye; have a7 := W4.out.ba.cell 0; have b7 := W4.out.ba.frozen 0; have a8 := (box_other (.int .i64 0) W4.out.br (by omega : w.heap.size + 1 ≠ w.heap.size)).cell 0; have b8 := (box_other (.int .i64 0) W4.out.br (by omega : w.heap.size + 1 ≠ w.heap.size)).frozen 0; simp only [List.getElem?_toArray, List.getElem?_cons_zero] at a7 a8)
          | (go_at_call 25; refine (hwt _ hb4).mono ?_; rintro e w6 ⟨rfl, rfl⟩))
        refine leaves_cons (f := 23) (args := #[.pointer (some ⟨w.heap.size, 0, none⟩), .pointer (some ⟨w.heap.size + 1, 0, none⟩)]) (by simp) (by simp [go_sem]) ?_
        refine (catch_idle _ _ _).mono ?_
        rintro e u' w'' ⟨rfl, rfl, hw⟩
        have k1 : BoxN w'' w.heap.size 3 #[.int .i64 0] := by rw [hw]; exact (box_other _ (setCell_box W4.out.ba) (by omega)).alloc _
        have k2 : BoxN w'' (w.heap.size + 1) 28 #[.int .i64 0] := by rw [hw]; exact (setCell_box (box_other _ W4.out.br (by omega))).alloc _
        have k3 : BoxN w'' V 27 y.cells := by rw [hw]; exact (box_other _ (box_other _ W4.out.bv (by omega)) (by omega)).alloc _
        have k4 : w.grownBy w'' (some V) := by
          rw [hw]
          exact gr_alloc (gr_own (gr_own W4.out.gr (grownBy_setCell' _ w.heap.size _) (Nat.le_refl _)) (grownBy_setCell' _ (w.heap.size + 1) _) (Nat.le_succ _)) _
        have k5 : y.Ou (w.heap.size ≤ ·) w'' := by
          rw [hw]
          exact ((HY.out.1.gr (grownBy_setCell' _ w.heap.size _) (fun b hb _ => ⟨fun e => by have := Option.some.inj e; omega, hb⟩)).gr (grownBy_setCell' _ (w.heap.size + 1) _) (fun b hb _ => ⟨fun e => by have := Option.some.inj e; omega, hb⟩)).gr (gr_alloc (gr_refl 0 _) _) (fun b hb _ => ⟨fun e => by have := Option.some.inj e; omega, by omega⟩)
        have c1 := k1.cell
        have c2 := k2.cell
        clear hw
        simp [Leaves, settle, results, Tryd.results13, go_sem, c1, c2]
        exact ⟨k4, y, HY.out.2, k3, k5⟩
      · simp only [if_neg h0] at hwt
        rw [if_neg h0]
        unfold GoR
        simp only
        unfold thrown at hwt
        clear h0
        go_enter_defers Tryd.func13, Tryd.ntmps13
        go_wp2_with (first
          | (go_at_call 24; refine htk.mono ?_; rintro e w1 ⟨rfl, hb1, hg1⟩; have W2 : Hid _ := W1.out.step hg1 (by omega); clear hg1 htk W1)
          | (go_at_call 14; refine (hpa _ hb1 W2.out.bv).mono ?_; rintro e w5 ⟨rfl, y, w4, ⟨hye, hyo, hgA, hgV, hb4, hV4⟩⟩; have W4 : Hid _ := (W2.out.step hgA (by omega)).setV hV4 hgV; have HY : Hid (y.Ou (fun b => w.heap.size + 1 + 1 < b) w5 ∧ y.er = x.1) := ⟨hyo.gr (row := none) ⟨rfl, rfl, rfl, Nat.le_refl _, fun _ _ _ => rfl⟩ (fun b hb _ => ⟨by simp, by have := hb1.lt; omega⟩), hye⟩; clear hpa hgA hgV hV4 hyo hye)
          | (go_at_call 25; refine (hwt _ hb4).mono ?_; rintro e w6 ⟨rfl, rfl⟩))
        refine leaves_cons (f := 23) (args := #[.pointer (some ⟨w.heap.size, 0, none⟩), .pointer (some ⟨w.heap.size + 1, 0, none⟩)]) (by simp) (by simp [go_sem]) ?_
        refine (catch_panicking w.heap.size (w.heap.size + 1) _ _ _ _ W4.out.ba W4.out.br (by omega)).mono ?_
        rintro e u' w'' ⟨rfl, rfl, hw⟩
        obtain ⟨k1, k2, k3⟩ := W4.out.caught w'' hw
        have c1 := k1.cell
        have c2 := k2.cell
        clear hw
        simp [Leaves, settle, results, Tryd.results13, go_sem, c1, c2]
        exact k3
end Go.Proofs.YtbeohmcmphebhaaDoor
