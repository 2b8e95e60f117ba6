import Derived.Test.YtbeohmcmphebhaaGreatDoorXRuB
namespace Go.Proofs.YtbeohmcmphebhaaGreatDoor
open Go.RowKit
set_option linter.unusedVariables false
theorem box1_set {W : World} {B : Nat} {t : TypeId} {v : Value} (h : BoxN W B t #[v]) (u : Value) : BoxN (W.setCell ⟨B, 0, none⟩ u) B t #[u] := setCell_box h
/-- Rules that were read, where they lie. -/
structure Got (T : ByteArray) (base : Nat) (W : World) (g : Nat) (l : List Rl) : Prop where
  len : l.length ≤ T.size + 1
  rows : ∀ (j : Nat) (r : Rl), l[j]? = some r → (∀ m, m < 8 → W.cell? ⟨g, j * 8 + m, none⟩ = (rcell r)[m]?) ∧ r.2.Ou (base ≤ ·) W ∧ r.1.size ≤ T.size
  lt : g < W.heap.size
  ge : base ≤ g
theorem Got.gr {T : ByteArray} {base : Nat} {W W' : World} {g V : Nat} {l : List Rl} (h : Got T base W g l) (hg : W.grownBy W' (some V)) (hV : V < base) : Got T base W' g l :=
  ⟨h.len, fun j r hr => ⟨fun m hm => (World.cell?_of_block (w := W) (a := ⟨g, j * 8 + m, none⟩) (hg.block g h.lt (fun e => by cases e; have := h.ge; omega))).trans ((h.rows j r hr).1 m hm), (h.rows j r hr).2.1.gr hg (fun b hb _ => ⟨fun e => by cases e; omega, hb⟩), (h.rows j r hr).2.2⟩, Nat.lt_of_lt_of_le h.lt hg.size, h.ge⟩
theorem Got.low {T : ByteArray} {base base' : Nat} {W : World} {g : Nat} {l : List Rl} (h : Got T base W g l) (hb : base' ≤ base) : Got T base' W g l :=
  ⟨h.len, fun j r hr => ⟨(h.rows j r hr).1, (h.rows j r hr).2.1.gr (row := none) ⟨rfl, rfl, rfl, Nat.le_refl _, fun _ _ _ => rfl⟩ (fun b hb2 _ => ⟨by simp, by omega⟩), (h.rows j r hr).2.2⟩, h.lt, by have := h.ge; omega⟩
theorem Lr.got {T : ByteArray} {B : Nat} {w wr : World} {g cap : Nat} {l : List Rl} {t : Tk} (h : Lr T B w wr g cap l t) (hl : l.length ≤ T.size + 1) : Got T w.heap.size wr g l := by
  refine ⟨hl, fun j r hr => ⟨fun m hm => ?_, (h.ou r (List.mem_of_getElem? hr)).1.gr (row := none) ⟨rfl, rfl, rfl, Nat.le_refl _, fun _ _ _ => rfl⟩ (fun b hb _ => ⟨by simp, hb.1⟩), (h.ou r (List.mem_of_getElem? hr)).2⟩, h.gl.2, h.gl.1⟩
  obtain ⟨u, hu⟩ : ∃ u, (rcell r)[m]? = some u := ⟨_, List.getElem?_eq_getElem (by show m < 8; exact hm)⟩
  have h1 := rcsL_at l j m r hr hm
  rw [hu] at h1 ⊢
  have := World.ownsRow.cells h.own (g := g) rfl _ _ h1
  rwa [Addr.add_lit, Nat.zero_add] at this
/-- What the part does. -/
def PaR (T : ByteArray) (B V : Nat) (w : World) (R : Except (List UInt8) (List Rl × Tk)) (e : Ending) (w' : World) : Prop :=
  match R with
  | .ok x => e = .returned (.tuple #[]) ∧ ∃ (g cap : Nat) (l : List Rl) (w1 : World), l.map er2 = x.1 ∧ l.length ≤ T.size + 1 ∧ Lr T B w w1 g cap l x.2 ∧ w' = w1.setCell ⟨V, 0, none⟩ (.slice (some ⟨g, 0, none⟩) l.length cap)
  | .error s => e = thrown T.size s ∧ w.grownBy w' (some B)
set_option maxRecDepth 20000 in
set_option maxHeartbeats 4000000 in
theorem part_does (T : ByteArray) (B V n : Nat) (hT : T.size ≤ 1000000) (t : Tk) (w : World) (ht : t.of T.data.toList) (hn : t.s.length < n) (hB : BoxN w B 89 (pcells T t)) (v0 : Value) (hV : BoxN w V 22 #[v0]) (hne : V ≠ B) :
    Calls Tryz.prog 23 #[.pointer (some ⟨B, 0, none⟩), .pointer (some ⟨V, 0, none⟩)] w fun e w' => PaR T B V w (rulesP (preP n) t) e w' := by
  have h1 := rules_does T B n hT t w ht hn hB
  clear ht hB
  cases hp : rulesP (preP n) t with
  | error s =>
    rw [hp] at h1
    unfold RsR at h1
    unfold PaR
    simp only at h1 ⊢
    unfold thrown at h1 ⊢
    go_enter Tryz.func23, Tryz.ntmps23
    go_wp2_with (go_at_call 24; refine h1.mono ?_; rintro e w1 ⟨rfl, hg1⟩)
    exact ⟨rfl, rfl, hg1⟩
  | ok x =>
    rw [hp] at h1
    unfold RsR at h1
    unfold PaR
    simp only at h1 ⊢
    go_enter Tryz.func23, Tryz.ntmps23
    go_wp2_with (go_at_call 24; refine h1.mono ?_; rintro e w1 ⟨g, cap, l, rfl, he, hl, HL⟩; have bV := hV.kept HL.gr (fun e => hne (by cases e; rfl)); have cV := bV.cell 0; simp only [List.getElem?_toArray, List.getElem?_cons_zero] at cV; have fV := bV.frozen 0)
    refine bodyPost_end (results_none rfl _ _ _) rfl ⟨rfl, g, cap, l, w1, he, hl, HL, rfl⟩
/-- What goOver does. -/
def GoR (T : ByteArray) (V : Nat) (w : World) (R : Except (List UInt8) (List Rl)) (e : Ending) (w' : World) : Prop :=
  match R with
  | .ok x => e = .returned (.tuple #[.int .i64 0, .int .i64 0]) ∧ w.grownBy w' (some V) ∧ ∃ (g cap : Nat) (l : List Rl), l.map er2 = x ∧ BoxN w' V 22 #[.slice (some ⟨g, 0, none⟩) l.length cap] ∧ Got T w.heap.size w' g l
  | .error s => e = .returned (.tuple #[.int .i64 ((T.size : Int) - s.length), .int .i64 4]) ∧ w.grownBy w' (some V)
/-- The two results' boxes. -/
structure Wq (w W : World) (V : Nat) (v : Value) : Prop where
  ba : BoxN W w.heap.size 3 #[.int .i64 0]
  br : BoxN W (w.heap.size + 1) 25 #[.int .i64 0]
  bv : BoxN W V 22 #[v]
  gr : w.grownBy W (some V)
  lt : V < w.heap.size
theorem Wq.step {w W W1 : World} {V P : Nat} {v : Value} (h : Wq w W V v) (hg : W.grownBy W1 (some P)) (hP : w.heap.size + 1 < P) : Wq w W1 V v :=
  ⟨h.ba.kept hg (fun e => by have := Option.some.inj e; omega), h.br.kept hg (fun e => by have := Option.some.inj e; omega), h.bv.kept hg (fun e => by have := Option.some.inj e; have := h.lt; omega),
   ⟨hg.os.trans h.gr.os, hg.tape.trans h.gr.tape, hg.output.trans h.gr.output, Nat.le_trans h.gr.size hg.size, fun k hk hn => (hg.block k (Nat.lt_of_lt_of_le hk h.gr.size) (fun e => by have := Option.some.inj e; omega)).trans (h.gr.block k hk hn)⟩, h.lt⟩
theorem Wq.setV {w W : World} {V : Nat} {v : Value} (h : Wq w W V v) (u : Value) : Wq w (W.setCell ⟨V, 0, none⟩ u) V u :=
  ⟨box_other u h.ba (by have := h.lt; omega), box_other u h.br (by have := h.lt; omega), box1_set h.bv u, gr_trans h.gr (grownBy_setCell' W V u), h.lt⟩
theorem Wq.alloc {w W : World} {V : Nat} {v : Value} (h : Wq w W V v) (o : Obj) : Wq w (W.alloc o) V v := ⟨h.ba.alloc o, h.br.alloc o, h.bv.alloc o, gr_alloc h.gr o, h.lt⟩
theorem Wq.start (w : World) (V : Nat) (v : Value) (hV : BoxN w V 22 #[v]) : Wq w ((w.alloc (.cells #[.int .i64 0] 3)).alloc (.cells #[.int .i64 0] 25)) V v := by
  have h2 := (BoxN.new w 3 #[.int .i64 0]).alloc (.cells #[.int .i64 0] 25)
  have h3 := BoxN.new (w.alloc (.cells #[.int .i64 0] 3)) 25 #[.int .i64 0]
  rw [show (w.alloc (.cells #[.int .i64 0] 3)).heap.size = w.heap.size + 1 from by simp] at h3
  exact ⟨h2, h3, (hV.alloc _).alloc _, gr_alloc (gr_alloc (gr_refl V w) _) _, hV.lt⟩
/-- A fault comes through the door. -/
theorem Wq.caught {w W : World} {V : Nat} {v : Value} {a : Int} (h : Wq w W V v) (W' : World) (hW : W' = ((W.alloc (.cells #[.int .i64 a] 84)).setCell ⟨w.heap.size, 0, none⟩ (.int .i64 a)).setCell ⟨w.heap.size + 1, 0, none⟩ (.int .i64 4)) : BoxN W' w.heap.size 3 #[.int .i64 a] ∧ BoxN W' (w.heap.size + 1) 25 #[.int .i64 4] ∧ w.grownBy W' (some V) := by
  have hA := h.alloc (.cells #[.int .i64 a] 84)
  rw [hW]
  refine ⟨box_other _ (box1_set hA.ba _) (by omega), box1_set (box_other _ hA.br (by omega)) _, ?_⟩
  exact gr_own (gr_own hA.gr (grownBy_setCell' _ w.heap.size _) (Nat.le_refl _)) (grownBy_setCell' _ (w.heap.size + 1) _) (Nat.le_succ _)
theorem dropZ (T : ByteArray) : T.data.toList.drop 0 = T.data.toList := rfl
set_option maxRecDepth 20000 in
set_option maxHeartbeats 4000000 in
theorem goOver_large (T : ByteArray) (V : Nat) (w : World) (f : Value) (hL : 2000 < T.size) (v0 : Value) (hV : BoxN w V 22 #[v0]) :
    Calls Tryz.prog 22 #[.string T, .bool true, f] w fun e w' => e = .returned (.tuple #[.int .i64 0, .int .i64 2]) ∧ w.grownBy w' (some V) := by
  have W0 := Wq.start w V v0 hV
  have g1 : decide ((2000 : Int) < (T.size : Int)) = true := decide_eq_true (by omega)
  clear W0 hV
  go_enter Tryz.func22, Tryz.ntmps22
  go_wp2_with fail
  refine bodyPost_ret (by simp [results, Tryz.results22, go_sem]) rfl ⟨rfl, gr_alloc (gr_alloc (gr_refl V w) _) _⟩
theorem q12_eq (T : ByteArray) : qcells T z10.toList = #[.string T, .bool true, .int .u8 0, .int .i64 0, .int .i64 0, .int .i64 0, .int .u64 0, .int .u64 0, .int .u64 0, .int .u64 0, .string ⟨#[]⟩, .slice none 0 0] := rfl
theorem takeL_of (l : List UInt8) (t : Tk) (h : takeL l = .ok t) : t.of l ∧ t.s.length ≤ l.length := by
  unfold takeL at h
  split at h
  · cases h
  · rename_i h4
    cases h
    have := tok_of l l (List.suffix_refl _) h4
    exact ⟨this, this.2.1.length_le⟩
set_option maxRecDepth 20000 in
set_option maxHeartbeats 8000000 in
theorem goOver_any (T : ByteArray) (V : Nat) (w : World) (hL : T.size ≤ 2000) (v0 : Value) (hV : BoxN w V 22 #[v0]) :
    Calls Tryz.prog 22 #[.string T, .bool true, .func (.func 23) #[] #[.pointer (some ⟨V, 0, none⟩)]] w fun e w' => GoR T V w (readG T.data.toList) e w' := by
  have hmf : ∀ (fn : Fn) (first cap : Array Value) (w : World), (Instr.makeFunc fn first cap).run Tryz.prog w = .ok (.func fn first cap) w := fun _ _ _ _ => rfl
  have g1 : decide ((2000 : Int) < (T.size : Int)) = false := decide_eq_false (by omega)
  have W0 := Wq.start w V v0 hV
  have W1 : Hid (Wq w (((w.alloc (.cells #[.int .i64 0] 3)).alloc (.cells #[.int .i64 0] 25)).alloc (.cells (qcells T z10.toList) 89)) V v0) := W0.alloc _
  have bP := BoxN.new ((w.alloc (.cells #[.int .i64 0] 3)).alloc (.cells #[.int .i64 0] 25)) 89 (qcells T z10.toList)
  rw [show ((w.alloc (.cells #[.int .i64 0] 3)).alloc (.cells #[.int .i64 0] 25)).heap.size = w.heap.size + 1 + 1 from by simp] at bP
  have htk := take_gen T (w.heap.size + 1 + 1) z10.toList 0 _ (by omega) (Nat.zero_le _) rfl rfl bP
  rw [dropZ] at htk
  unfold readG
  have hlt := hV.lt
  clear bP hV W0
  rw [q12_eq] at htk W1
  have hln : T.data.toList.length = T.size := llen T
  cases hu : takeL T.data.toList with
  | error s =>
    rw [hu] at htk
    rw [thn_error]
    unfold TakeR at htk
    unfold GoR
    simp only at htk ⊢
    unfold thrown at htk
    clear hu
    go_enter_defers Tryz.func22, Tryz.ntmps22
    go_wp2_with (go_at_call 48; refine htk.mono ?_; rintro e w1 ⟨rfl, hg1⟩; have W2 : Hid _ := W1.out.step hg1 (by omega); clear hg1 htk W1)
    refine leaves_cons (f := 47) (args := #[.pointer (some ⟨w.heap.size, 0, none⟩), .pointer (some ⟨w.heap.size + 1, 0, none⟩)]) (by simp) (by simp [go_sem]) ?_
    refine (catch_panicking w.heap.size (w.heap.size + 1) _ _ _ _ W2.out.ba W2.out.br (by omega)).mono ?_
    rintro e u' w'' ⟨rfl, rfl, hw⟩
    obtain ⟨k1, k2, k3⟩ := W2.out.caught w'' hw
    have c1 := k1.cell
    have c2 := k2.cell
    clear hw
    simp [Leaves, settle, results, Tryz.results22, go_sem, c1, c2]
    exact k3
  | ok t =>
    rw [hu] at htk
    rw [thn_ok]
    unfold TakeR at htk
    simp only at htk
    obtain ⟨hof, hts⟩ := takeL_of _ _ hu
    clear hu
    generalize hN : T.data.toList.length + 1 = N at *
    have hpa : ∀ W, BoxN W (w.heap.size + 1 + 1) 89 (pcells T t) → BoxN W V 22 #[v0] → _ := fun W h1 h2 => part_does T (w.heap.size + 1 + 1) V N (by omega) t W hof (by omega) h1 v0 h2 (by omega)
    clear hof hts hN
    cases hp : rulesP (preP N) t with
    | error s =>
      rw [hp] at hpa
      rw [thn_error]
      unfold PaR at hpa
      unfold GoR
      simp only at hpa ⊢
      unfold thrown at hpa
      clear hp
      go_enter_defers Tryz.func22, Tryz.ntmps22
      go_wp2_with (first
        | (go_at_call 48; refine htk.mono ?_; rintro e w1 ⟨rfl, hb1, hg1⟩; have W2 : Hid _ := W1.out.step hg1 (by omega); clear hg1 htk W1)
        | (go_at_call 23; refine (hpa _ hb1 W2.out.bv).mono ?_; rintro e w3 ⟨rfl, hg3⟩; have W3 : Hid _ := W2.out.step hg3 (by omega); clear hg3 hpa))
      refine leaves_cons (f := 47) (args := #[.pointer (some ⟨w.heap.size, 0, none⟩), .pointer (some ⟨w.heap.size + 1, 0, none⟩)]) (by simp) (by simp [go_sem]) ?_
      refine (catch_panicking w.heap.size (w.heap.size + 1) _ _ _ _ W3.out.ba W3.out.br (by omega)).mono ?_
      rintro e u' w'' ⟨rfl, rfl, hw⟩
      obtain ⟨k1, k2, k3⟩ := W3.out.caught w'' hw
      have c1 := k1.cell
      have c2 := k2.cell
      clear hw
      simp [Leaves, settle, results, Tryz.results22, go_sem, c1, c2]
      exact k3
    | ok x =>
      rw [hp] at hpa
      rw [thn_ok]
      unfold PaR at hpa
      simp only at hpa
      clear hp
      have hwt : ∀ W, BoxN W (w.heap.size + 1 + 1) 89 (pcells T x.2) → _ := fun W hW => want_any T (w.heap.size + 1 + 1) x.2 0 W hW
      rw [show (((0 : UInt8).toNat : Nat) : Int) = 0 from rfl] at hwt
      by_cases h0 : x.2.k = 0
      · simp only [if_pos h0] at hwt
        rw [if_pos h0]
        unfold GoR
        simp only
        clear h0
        go_enter_defers Tryz.func22, Tryz.ntmps22
        go_wp2_with (first
          | (go_at_call 48; refine htk.mono ?_; rintro e w1 ⟨rfl, hb1, hg1⟩; have W2 : Hid _ := W1.out.step hg1 (by omega); clear hg1 htk W1)
          | (go_at_call 23; refine (hpa _ hb1 W2.out.bv).mono ?_; rintro e w3 ⟨rfl, gg, cap, l, w4, hle, hll, HL, rfl⟩; have W4 : Hid _ := (W2.out.step HL.gr (by omega)).setV (.slice (some ⟨gg, 0, none⟩) l.length cap); have G4 : Hid _ := ((HL.got hll).gr (grownBy_setCell' w4 V (.slice (some ⟨gg, 0, none⟩) l.length cap)) (by have := hb1.lt; omega)).low (base' := w.heap.size) (by have := hb1.lt; omega); have G4b : Hid (w1.heap.size ≤ gg ∧ Got T w1.heap.size (w4.setCell ⟨V, 0, none⟩ (.slice (some ⟨gg, 0, none⟩) l.length cap)) gg l) := ⟨HL.gl.1, (HL.got hll).gr (grownBy_setCell' w4 V (.slice (some ⟨gg, 0, none⟩) l.length cap)) (by have := hb1.lt; omega)⟩; have hb4 := box_other (.slice (some ⟨gg, 0, none⟩) l.length cap) HL.box (by omega : w.heap.size + 1 + 1 ≠ V); have hls : w.heap.size + 1 + 1 < w1.heap.size := hb1.lt; clear hpa HL; generalize w4.setCell ⟨V, 0, none⟩ (.slice (some ⟨gg, 0, none⟩) l.length cap) = w5 at *; have a7 := W4.out.ba.cell 0; have b7 := W4.out.ba.frozen 0; have a8 := (box_other (.int .i64 0) W4.out.br (by omega : w.heap.size + 1 ≠ w.heap.size)).cell 0; have b8 := (box_other (.int .i64 0) W4.out.br (by omega : w.heap.size + 1 ≠ w.heap.size)).frozen 0; simp only [List.getElem?_toArray, List.getElem?_cons_zero] at a7 a8)
          | (go_at_call 49; refine (hwt _ hb4).mono ?_; rintro e w6 ⟨rfl, rfl⟩))
        refine leaves_cons (f := 47) (args := #[.pointer (some ⟨w.heap.size, 0, none⟩), .pointer (some ⟨w.heap.size + 1, 0, none⟩)]) (by simp) (by simp [go_sem]) ?_
        refine (catch_idle _ _ _).mono ?_
        rintro e u' w'' ⟨rfl, rfl, hw⟩
        have k1 : BoxN w'' w.heap.size 3 #[.int .i64 0] := by rw [hw]; exact (box_other _ (setCell_box W4.out.ba) (by omega)).alloc _
        have k2 : BoxN w'' (w.heap.size + 1) 25 #[.int .i64 0] := by rw [hw]; exact (setCell_box (box_other _ W4.out.br (by omega))).alloc _
        have k3 : BoxN w'' V 22 #[.slice (some ⟨gg, 0, none⟩) l.length cap] := by rw [hw]; exact (box_other _ (box_other _ W4.out.bv (by omega)) (by omega)).alloc _
        have k4 : w.grownBy w'' (some V) := by
          rw [hw]
          exact gr_alloc (gr_own (gr_own W4.out.gr (grownBy_setCell' _ w.heap.size _) (Nat.le_refl _)) (grownBy_setCell' _ (w.heap.size + 1) _) (Nat.le_succ _)) _
        have k5 : Got T w.heap.size w'' gg l := by
          rw [hw]
          exact (((G4b.out.2.gr (grownBy_setCell' _ w.heap.size _) (by omega)).gr (grownBy_setCell' _ (w.heap.size + 1) _) (by omega)).gr (gr_alloc (gr_refl 0 _) _) (by omega)).low (by omega)
        have c1 := k1.cell
        have c2 := k2.cell
        clear hw
        simp [Leaves, settle, results, Tryz.results22, go_sem, c1, c2]
        exact ⟨k4, gg, cap, l, hle, k3, k5⟩
      · simp only [if_neg h0] at hwt
        rw [if_neg h0]
        unfold GoR
        simp only
        unfold thrown at hwt
        clear h0
        go_enter_defers Tryz.func22, Tryz.ntmps22
        go_wp2_with (first
          | (go_at_call 48; refine htk.mono ?_; rintro e w1 ⟨rfl, hb1, hg1⟩; have W2 : Hid _ := W1.out.step hg1 (by omega); clear hg1 htk W1)
          | (go_at_call 23; refine (hpa _ hb1 W2.out.bv).mono ?_; rintro e w3 ⟨rfl, gg, cap, l, w4, hle, hll, HL, rfl⟩; have W4 : Hid _ := (W2.out.step HL.gr (by omega)).setV (.slice (some ⟨gg, 0, none⟩) l.length cap); have hb4 := box_other (.slice (some ⟨gg, 0, none⟩) l.length cap) HL.box (by omega : w.heap.size + 1 + 1 ≠ V); clear hpa HL; generalize w4.setCell ⟨V, 0, none⟩ (.slice (some ⟨gg, 0, none⟩) l.length cap) = w5 at *)
          | (go_at_call 49; refine (hwt _ hb4).mono ?_; rintro e w6 ⟨rfl, rfl⟩))
        refine leaves_cons (f := 47) (args := #[.pointer (some ⟨w.heap.size, 0, none⟩), .pointer (some ⟨w.heap.size + 1, 0, none⟩)]) (by simp) (by simp [go_sem]) ?_
        refine (catch_panicking w.heap.size (w.heap.size + 1) _ _ _ _ W4.out.ba W4.out.br (by omega)).mono ?_
        rintro e u' w'' ⟨rfl, rfl, hw⟩
        obtain ⟨k1, k2, k3⟩ := W4.out.caught w'' hw
        have c1 := k1.cell
        have c2 := k2.cell
        clear hw
        simp [Leaves, settle, results, Tryz.results22, go_sem, c1, c2]
        exact k3
/-- What Rules answers. -/
def rulR (l : List UInt8) : List Rl × Int × Int :=
  if 2000 < l.length then ([], 0, 2) else
  match readG l with
  | .ok x => (x, 0, 0)
  | .error s => ([], (l.length : Int) - s.length, 4)
set_option maxRecDepth 20000 in
set_option maxHeartbeats 4000000 in
theorem rules_any (T : ByteArray) (w : World) (hmx : T.size ≤ 140737488355328) :
    Calls Tryz.prog 11 #[.string T] w fun e w' => Below w.heap.size w w' ∧ ((∃ (g cap : Nat) (l : List Rl), e = .returned (.tuple #[.slice (some ⟨g, 0, none⟩) l.length cap, .int .i64 0, .int .i64 0]) ∧ rulR T.data.toList = (l.map er2, 0, 0) ∧ T.size ≤ 2000 ∧ Got T w.heap.size w' g l) ∨ (∃ a c : Int, e = .returned (.tuple #[.slice none 0 0, .int .i64 a, .int .i64 c]) ∧ rulR T.data.toList = ([], a, c) ∧ c ≠ 0)) := by
  have bV := BoxN.new w 22 #[.slice none 0 0]
  have hln : T.data.toList.length = T.size := llen T
  have HB : Hid (∀ {W}, (w.alloc (.cells #[.slice none 0 0] 22)).grownBy W (some w.heap.size) → Below w.heap.size w W) := fun hg => ((Below.refl w.heap.size w).alloc (Nat.le_refl _) _).trans ⟨hg.os, hg.tape, hg.output, hg.size, fun k hk => hg.block k (by simp; omega) (fun e => by cases e; omega)⟩
  unfold rulR
  rw [hln]
  have hmf : ∀ (fn : Fn) (first cap : Array Value) (w : World), (Instr.makeFunc fn first cap).run Tryz.prog w = .ok (.func fn first cap) w := fun _ _ _ _ => rfl
  by_cases hL : 2000 < T.size
  · have hgo := goOver_large T w.heap.size (w.alloc (.cells #[.slice none 0 0] 22)) (.func (.func 23) #[] #[.pointer (some ⟨w.heap.size, 0, none⟩)]) hL _ bV
    rw [if_pos hL]
    clear hL bV
    go_enter Tryz.func11, Tryz.ntmps11
    go_wp2_with (go_at_call 22; refine hgo.mono ?_; rintro e w1 ⟨rfl, hg1⟩)
    refine bodyPost_ret (by simp [results, Tryz.results11, go_sem]) rfl ⟨HB.out hg1, .inr ⟨0, 2, rfl, rfl, by decide⟩⟩
  · have hgo := goOver_any T w.heap.size (w.alloc (.cells #[.slice none 0 0] 22)) (by omega) _ bV
    rw [if_neg hL]
    have hL2 : T.size ≤ 2000 := by omega
    clear hL bV
    cases hr : readG T.data.toList with
    | error s =>
      rw [hr] at hgo
      unfold GoR at hgo
      simp only at hgo ⊢
      clear hr
      go_enter Tryz.func11, Tryz.ntmps11
      go_wp2_with (go_at_call 22; refine hgo.mono ?_; rintro e w1 ⟨rfl, hg1⟩)
      refine bodyPost_ret (by simp [results, Tryz.results11, go_sem]) rfl ⟨HB.out hg1, .inr ⟨_, 4, rfl, rfl, by decide⟩⟩
    | ok x =>
      rw [hr] at hgo
      unfold GoR at hgo
      simp only at hgo ⊢
      clear hr
      go_enter Tryz.func11, Tryz.ntmps11
      go_wp2_with (go_at_call 22; refine hgo.mono ?_; rintro e w1 ⟨rfl, hg1, gg, cap, l, hle, bV, G⟩; have cV := bV.cell 0; simp only [List.getElem?_toArray, List.getElem?_cons_zero] at cV)
      refine bodyPost_ret (by simp [results, Tryz.results11, go_sem]) rfl ⟨HB.out hg1, .inl ⟨gg, cap, l, rfl, by rw [hle], hL2, G.low (by simp)⟩⟩
end Go.Proofs.YtbeohmcmphebhaaGreatDoor
