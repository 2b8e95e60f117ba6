import Derived.Test.YtbeohmcmphebhaaGreatDoorXRPc
import Derived.Laws.CopyRow
import Derived.Test.YtbeohmcmphebhaaGreatDoorXOver
import Derived.Deep.MidRow
namespace Go.Proofs.YtbeohmcmphebhaaGreatDoor
open Go.RowKit
open Ex.Ou (OuL)
set_option linter.unusedVariables false
theorem post_start {A : Rs} {y : Ex} {v : Tk} {b : Bool} (hm : match A with | .ok x => b = true ∧ y.er = x.1 ∧ v = x.2 | .error s => v.s = s ∧ (b = true → v.k = 4)) (h4 : ∀ x, A = .ok x → x.2.k ≠ 4) :
    (b = true → (thn A fun x => postL x.2.s.length x.1 x.2) = postG y.er v) ∧ (b = false → (thn A fun x => postL x.2.s.length x.1 x.2) = .error v.s) := by
  cases A with
  | error s =>
    rw [thn_error]
    refine ⟨fun h => ?_, fun _ => by rw [hm.1]⟩
    unfold postG
    rw [if_pos (hm.2 h), hm.1]
  | ok x =>
    rw [thn_ok]
    refine ⟨fun _ => ?_, fun h => ?_⟩
    · unfold postG
      rw [hm.2.2, if_neg (h4 x rfl), hm.2.1]
    · rw [hm.1] at h; cases h
theorem primP_ok4 {T : ByteArray} {L : List Tk} (hL : TL T L) {i : Nat} {t : Tk} (hi : L[i]? = some t) (n : Nat) (hn : t.s.length < n + 1) (x : Ex × Tk) (hx : primP (preP n) t = .ok x) : x.2.k ≠ 4 := by
  by_cases h4 : t.k = 4
  · exfalso
    unfold primP at hx
    rw [if_neg (by rw [h4]; decide), if_neg (by rw [h4]; decide)] at hx
    cases hx
  · have := primP_fine (preP_fine (T := T.data.toList) n) t (hL.of hi h4) (by omega)
    rw [hx] at this
    exact this.1.2.2
theorem kindB_4 {k : UInt8} (h : kindB k ≠ 0) : k ≠ 4 := by rintro rfl; exact h rfl
theorem kindB_bd (k : UInt8) : kindB k = 0 ∨ (7 ≤ kindB k ∧ kindB k ≤ 9) := by
  unfold kindB
  split
  · right; decide
  split
  · right; decide
  split
  · right; decide
  · left; rfl
set_option maxRecDepth 20000 in
set_option maxHeartbeats 8000000 in
theorem rpre_post (T : ByteArray) (g cap n : Nat) (L : List Tk) (hT : T.size ≤ 1000000) (hL : TL T L) (hd : RDoes T g cap L 80 (n + 1) (primP (preP n))) (i : Nat) (t : Tk) (w : World) (hi : L[i]? = some t) (hn : t.s.length < n + 1) (hw : TW T.size g L w) (h38 : ¬ t.k = 38) (h33 : ¬ t.k = 33) :
    Calls Tryz.prog 60 #[.slice (some ⟨g, 0, none⟩) L.length cap, .int .i64 i] w fun e w' => RdP L w.heap.size w' (thn (primP (preP n) t) fun x => postL x.2.s.length x.1 x.2) e ∧ Below w.heap.size w w' := by
  have hkd := rk_fin t.k (hL.kd hi)
  have g1 : (((rk t.k).toNat : Int) == 38) = false := rk_ne (by decide) (by rw [show (UInt8.ofNat 38) = 38 from rfl, hkd.2.2.2.2.2.2.2.1]; exact h38)
  have g2 : (((rk t.k).toNat : Int) == 126) = false := rk_ne (by decide) (by rw [show (UInt8.ofNat 126) = 126 from rfl, hkd.2.2.2.2.2.2.2.2.1]; exact h33)
  have R0 : Hid (Rq T.size g L w (w.alloc (.cells z7 43))) := Rq.start hw
  have hpm := hd i t (w.alloc (.cells z7 43)) hi hn R0.out.tw
  have h4 := primP_ok4 hL hi n hn
  have hil := get_lt hi
  have hln := hL.len
  have c0 := R0.out.tw.kind hi
  generalize primP (preP n) t = A at *
  have HS : Hid (∀ (y : Ex) (v : Tk) (b : Bool), (match (generalizing := false) A with | .ok x => b = true ∧ y.er = x.1 ∧ v = x.2 | .error s => v.s = s ∧ (b = true → v.k = 4)) → (b = true → (thn A fun x => postL x.2.s.length x.1 x.2) = postG y.er v) ∧ (b = false → (thn A fun x => postL x.2.s.length x.1 x.2) = .error v.s)) := fun y v b hm => post_start hm h4
  generalize (thn A fun x => postL x.2.s.length x.1 x.2) = R at *
  unfold RdP at hpm
  rw [z7_eq] at c0 hpm
  have HL : Hid (TL T L) := hL
  have hix : ∀ (c : UInt8) (W : World), Calls Tryz.prog 32 #[.string ⟨#[42, 43, 63]⟩, .int .u8 (c.toNat : Int)] W fun e w' => e = .returned (.int .i64 (Lib.indexByte [42, 43, 63] c)) ∧ w' = W := fun c W => by
    have := Tryz.strings_IndexByte ⟨#[42, 43, 63]⟩ (c.toNat : Int) W
    simpa using this
  clear hkd hi hn hw h38 h33 hd hL h4
  go_enter Tryz.func60, Tryz.ntmps60
  go_wp2_with (first
    | (go_at_call 80; refine hpm.mono ?_; clear hpm; rintro e w3 ⟨⟨y, j, v, b, rfl, hyo, hjv, hm⟩, hb3⟩; rw [← z7_eq] at hyo hb3; have HYO : Hid _ := hyo; have HM : Hid _ := HS.out y v b hm; have HV : Hid _ := hjv; have R3 : Hid _ := R0.out.below hb3; clear hyo hm hjv hb3 HS))
  have HE : Hid (w.heap.size < w3.heap.size) := R3.out.res.lt
  have S0 : Hid (Rq T.size g L w (w3.alloc (.cells y.cells 43)) ∧ BoxN (w3.alloc (.cells y.cells 43)) w3.heap.size 43 y.cells ∧ y.Ou (fun b => w.heap.size + 1 ≤ b ∧ b ≠ w3.heap.size) (w3.alloc (.cells y.cells 43))) :=
    ⟨R3.out.alloc _, BoxN.new w3 43 y.cells, Ex.Ou.gr (World.grownBy_alloc w3 (.cells y.cells 43) none) (fun b hb hlt => ⟨by simp, by simp at hb; omega, by omega⟩) HYO.out⟩
  rw [cells_eq] at S0
  cases b with
  | false =>
    have HR : Hid (R = .error v.s) := HM.out.2 rfl
    clear HM R0 R3 HYO
    have ce := S0.out.2.1.cell
    go_loopg [1] 0 (fun _ q wr => q = .int .i64 j ∧ wr = w3.alloc (.cells #[.int .i64 y.k, .int .u64 (wd y.S 0), .int .u64 (wd y.S 1), .int .u64 (wd y.S 2), .int .u64 (wd y.S 3), .string y.t, .slice y.a y.kids.length y.c] 43))
    case atStart => exact ⟨rfl, rfl⟩
    case round =>
      obtain ⟨rfl, rfl⟩ := hrel
      go_wp2_with (first
        | (refine wpList_store_box rfl 43 _ _ rfl w.heap.size _ rfl rfl z7 S0.out.1.res Tryz.info43 rfl (by simp [Value.oneCell']) ?_; intro w5 hx5 hg5; have hc := hx5.cell))
      have hy5 : y.Ou (w.heap.size ≤ ·) w5 := S0.out.2.2.gr hg5 (fun b hb _ => ⟨fun e => by cases e; have := hb.1; omega, by have := hb.1; omega⟩)
      exact bodyPost_ret (by simp [results, Tryz.results60, go_sem, hc]) rfl ⟨⟨y, j, v, false, rfl, hy5, HV.out, by rw [HR.out]; exact ⟨rfl, fun h => by cases h⟩⟩, S0.out.1.last hg5⟩
  | true =>
    have HR : Hid (R = postG y.er v) := HM.out.1 rfl
    clear HM R0 R3 HYO
    go_loopg [1] (v.s.length + 1) (fun gk q wr => ∃ (j : Nat) (y : Ex) (u : Tk), q = .int .i64 j ∧ Hid (Rq T.size g L w wr ∧ BoxN wr w3.heap.size 43 y.cells ∧ y.Ou (fun b => w.heap.size + 1 ≤ b ∧ b ≠ w3.heap.size) wr ∧ L[j]? = some u ∧ u.s.length < gk ∧ postG y.er u = R))
    case atStart => exact ⟨j, y, v, rfl, S0.out.1, S0.out.2.1, S0.out.2.2, HV.out, Nat.lt_succ_self _, HR.out.symm⟩
    case round =>
      clear S0 HR HV
      obtain ⟨j, y, u, rfl, HQ⟩ := hrel
      generalize w3.heap.size = E at *
      have hju := get_lt HQ.out.2.2.2.1
      have cu := HQ.out.1.tw.kind HQ.out.2.2.2.1
      have ce := HQ.out.2.1.cell
      rw [cells_eq] at ce
      have hx := hix (rk u.k)
      have hkd : Hid _ := rk_fin u.k (HL.out.kd HQ.out.2.2.2.1)
      by_cases hk0 : kindB u.k = 0
      · have hlt := hkd.out.2.1.1 hk0
        generalize Lib.indexByte [42, 43, 63] (rk u.k) = q at *
        have gl : decide (q < 0) = true := decide_eq_true hlt
        clear hlt
        go_wp2_with (first
          | (go_at_call 32; refine (hx _).mono ?_; rintro e w2 ⟨rfl, rfl⟩)
          | (refine wpList_store_box rfl 43 _ _ rfl w.heap.size _ rfl rfl z7 HQ.out.1.res Tryz.info43 rfl (by simp [Value.oneCell']) ?_; intro w5 hx5 hg5; have hc := hx5.cell))
        have hy5 : y.Ou (w.heap.size ≤ ·) w5 := HQ.out.2.2.1.gr hg5 (fun b hb _ => ⟨fun e => by cases e; have := hb.1; omega, by have := hb.1; omega⟩)
        refine bodyPost_ret (by simp [results, Tryz.results60, go_sem, hc]) rfl ⟨⟨y, j, u, true, rfl, hy5, HQ.out.2.2.2.1, ?_⟩, HQ.out.1.last hg5⟩
        have hp := HQ.out.2.2.2.2.2
        by_cases h4 : u.k = 4
        · unfold postG at hp
          rw [if_pos h4] at hp
          rw [← hp]; exact ⟨rfl, fun _ => h4⟩
        · rw [postG_no h4 hk0] at hp
          rw [← hp]; exact ⟨rfl, rfl, rfl⟩
      · have hq := hkd.out.2.2.1 hk0
        have hbd := kindB_bd u.k
        obtain ⟨hn1, hn2⟩ := HL.out.next HQ.out.2.2.2.1 (kindB_ne hk0) (kindB_4 hk0)
        have hm := postG_more (e := y.er) (HL.out.of HQ.out.2.2.2.1 (kindB_4 hk0)) hk0
        have HN : Hid (L[j + 1]? = some (tok u.r) ∧ (tok u.r).s.length < u.s.length ∧ postG (nd (kindB u.k) [y.er]) (tok u.r) = R) := ⟨hn1, hn2, by rw [← hm]; exact HQ.out.2.2.2.2.2⟩
        generalize kindB u.k = kk at *
        generalize Lib.indexByte [42, 43, 63] (rk u.k) = q at *
        have gl : decide (q < 0) = false := decide_eq_false (by omega)
        have hln2 := HL.out.len
        subst hq
        have bE2 : Hid (BoxN (wr.alloc (.cells #[.int .i64 y.k, .int .u64 (wd y.S 0), .int .u64 (wd y.S 1), .int .u64 (wd y.S 2), .int .u64 (wd y.S 3), .string y.t, .slice y.a y.kids.length y.c] 43)) E 43 y.cells) := HQ.out.2.1.alloc _
        have bK : Hid (BoxN (wr.alloc (.cells #[.int .i64 y.k, .int .u64 (wd y.S 0), .int .u64 (wd y.S 1), .int .u64 (wd y.S 2), .int .u64 (wd y.S 3), .string y.t, .slice y.a y.kids.length y.c] 43)) wr.heap.size 43 y.cells) := BoxN.new wr 43 y.cells
        have HEw : Hid (E < wr.heap.size ∧ w.heap.size < wr.heap.size) := ⟨HQ.out.2.1.lt, HQ.out.1.res.lt⟩
        clear hm hn1 hn2
        go_wp2_with (first
          | (go_at_call 32; refine (hx _).mono ?_; rintro e w2 ⟨rfl, rfl⟩)
          | (refine wpList_store_box rfl 43 _ _ rfl E _ rfl rfl y.cells bE2.out Tryz.info43 rfl (by simp [Value.oneCell']) ?_; intro w5 hx5 hg5))
        go_roundg u.s.length
        case measure => exact HQ.out.2.2.2.2.1
        case rel =>
          have hz := one_ou (P := fun b => w.heap.size + 1 ≤ b ∧ b ≠ E) (7 + q) (bK.out.kept hg5 (fun e => absurd (Option.some.inj e) (by have := HEw.out.1; omega))) ⟨HEw.out.2, fun e => by have := HEw.out.1; omega⟩ (HQ.out.2.2.1.gr (grown_alloc _ hg5) (fun b hb _ => ⟨fun e => by cases e; exact hb.2 rfl, hb⟩))
          refine ⟨j + 1, _, tok u.r, by go_num, (HQ.out.1.alloc _).own hg5 (fun k e => by cases e; exact HE.out), ?_, hz, HN.out.1, HN.out.2.1, ?_⟩
          · simpa [Ex.cells, Ex.k, Ex.S, Ex.t, Ex.a, Ex.c, Ex.kids, wd_zero] using hx5
          · rw [er_eq]; exact HN.out.2.2
theorem rpre_does (T : ByteArray) (g cap n : Nat) (L : List Tk) (hT : T.size ≤ 1000000) (hL : TL T L) (hd : RDoes T g cap L 60 n (preP n)) (hp : RDoes T g cap L 80 (n + 1) (primP (preP n))) : RDoes T g cap L 60 (n + 1) (preP (n + 1)) := by
  intro i t w hi hn hw
  rw [preP]
  split
  · rename_i h; exact rpre_and T g cap n L hT hL hd i t w hi hn hw h
  split
  · rename_i h; exact rpre_not T g cap n L hT hL hd i t w hi hn hw h
  · rename_i h1 h2; exact rpre_post T g cap n L hT hL hp i t w hi hn hw h1 h2
end Go.Proofs.YtbeohmcmphebhaaGreatDoor
namespace Go.Proofs.YtbeohmcmphebhaaGreatDoor
open Go.RowKit
open Ex.Ou (OuL)
set_option linter.unusedVariables false
/-- What is known behind one of several alternatives. -/
structure AltK (T : ByteArray) (L : List Tk) (n : Nat) (pre : Tk → Rs) (R : Rs) (l : List Ex) (u : Tk) (y : Ex) (v : Tk) (b : Bool) : Prop where
  no : b = false → R = .error v.s
  ends : b = true → ¬ v.k = 47 → (v.k = 4 ∧ R = .error v.s) ∨ R = .ok (gath 6 (l ++ [y.er]), v)
  more : b = true → v.k = 47 → ∀ j, L[j]? = some v → R = altG pre (l ++ [y.er]) (tok v.r) ∧ L[j + 1]? = some (tok v.r) ∧ (tok v.r).s.length < u.s.length
theorem altL_no' {pre : Tk → Rs} {m : Nat} {l : List Ex} {u : Tk} (h : ¬ u.k = 47) : altL pre m l u = .ok (gath 6 l, u) := by
  cases m with
  | zero => rfl
  | succ g => rw [altL, if_neg h]
theorem altK {T : ByteArray} {L : List Tk} (hL : TL T L) {n : Nat} {pre : Tk → Rs} (hg : Goes T.data.toList n pre) (ht : Tells pre) {j : Nat} {u : Tk} (hu : L[j]? = some u) (hun : u.s.length < n) (l : List Ex) {y : Ex} {v : Tk} {b : Bool} (hm : match seqP pre u with | .ok x => b = true ∧ y.er = x.1 ∧ v = x.2 | .error s => v.s = s ∧ (b = true → v.k = 4)) : AltK T L n pre (altG pre l u) l u y v b := by
  unfold altG
  cases hp : seqP pre u with
  | error s =>
    rw [hp] at hm
    rw [thn_error]
    refine ⟨fun _ => by rw [hm.1], fun h _ => .inl ⟨hm.2 h, by rw [hm.1]⟩, fun h h2 => ?_⟩
    rw [hm.2 h] at h2
    exact absurd h2 (by decide)
  | ok x =>
    rw [hp] at hm
    rw [thn_ok]
    have h4 : u.k ≠ 4 := fun h => by rw [seqP_tells ht u h] at hp; cases hp
    have hf := seqP_fine hg u (hL.of hu h4) hun
    rw [hp] at hf
    obtain ⟨f1, f2, _⟩ := hf
    obtain ⟨m1, m2, m3⟩ := hm
    rw [← m3] at f1 f2
    rw [← m2, ← m3]
    refine ⟨fun h => ?_, fun _ h => .inr (altL_no' h), fun _ h j hj => ?_⟩
    · rw [m1] at h; cases h
    · obtain ⟨n1, n2⟩ := hL.next hj (by rw [h]; decide) (by rw [h]; decide)
      exact ⟨altG_more hg ht _ v f1 (by omega) h, n1, by omega⟩
set_option maxRecDepth 20000 in
set_option maxHeartbeats 8000000 in
theorem ralt_does (T : ByteArray) (g cap n : Nat) (L : List Tk) (pre : Tk → Rs) (hT : T.size ≤ 1000000) (hL : TL T L) (hg : Goes T.data.toList n pre) (ht : Tells pre) (hd : RDoes T g cap L 33 n (seqP pre)) : RDoes T g cap L 13 n (altP pre) := by
  intro i t w hi hn hw
  rw [← altG_nil pre t]
  generalize hR : altG pre [] t = R
  have R0 : Hid (Rq T.size g L w (w.alloc (.cells z7 43))) := Rq.start hw
  have K0 : Hid (Kq w (w.alloc (.cells z7 43)) (.slice none 0 0) []) := Kq.start w _
  have HX : Hid (TL T L ∧ Goes T.data.toList n pre ∧ Tells pre ∧ RDoes T g cap L 33 n (seqP pre)) := ⟨hL, hg, ht, hd⟩
  have HI : Hid (L[i]? = some t ∧ t.s.length < n ∧ altG pre [] t = R) := ⟨hi, hn, hR⟩
  have hln := hL.len
  rw [z7_eq] at R0 K0
  clear hi hn hw hL hg ht hd hR
  go_enter Tryz.func13, Tryz.ntmps13
  go_wp2_with fail
  go_loopg [7, 1] (t.s.length + 1) (fun gk v q wr => ∃ (j : Nat) (l : List Ex) (u : Tk), q = .int .i64 j ∧ Hid (Kq w wr v l ∧ Rq T.size g L w wr) ∧ Hid (L[j]? = some u ∧ u.s.length < n ∧ u.s.length < gk ∧ l.length + u.s.length ≤ T.size ∧ altG pre (l.map Ex.er) u = R))
  case atStart => exact ⟨i, [], t, rfl, ⟨K0.out, R0.out⟩, HI.out.1, HI.out.2.1, Nat.lt_succ_self _, by have := HX.out.1.small HI.out.1; simp; omega, HI.out.2.2⟩
  case round =>
    clear K0 R0 HI
    obtain ⟨j, l, u, rfl, HK, HU⟩ := hrel
    have hjl := get_lt HU.out.1
    have hll : l.length ≤ 2000000 := by have := HU.out.2.2.2.1; omega
    have hpre := HX.out.2.2.2 j u wr HU.out.1 HU.out.2.1 HK.out.2.tw
    have HS : Hid (∀ (y : Ex) (v : Tk) (b : Bool), (match (generalizing := false) seqP pre u with | .ok x => b = true ∧ y.er = x.1 ∧ v = x.2 | .error s => v.s = s ∧ (b = true → v.k = 4)) → AltK T L n pre R (l.map Ex.er) u y v b) := fun y v b hm => by
      rw [← HU.out.2.2.2.2]
      exact altK HX.out.1 HX.out.2.1 HX.out.2.2.1 HU.out.1 HU.out.2.1 _ hm
    unfold RdP at hpre
    generalize seqP pre u = A at *
    go_wp2_with (first
      | (go_at_call 33; refine hpre.mono ?_; clear hpre; rintro e w3 ⟨⟨y, j2, v2, b, rfl, hyo, hjv, hm⟩, hb3⟩; have SK : Hid _ := HS.out y v2 b hm; have HV : Hid _ := hjv; have hj2 := get_lt hjv; have K3 : Hid (Kq w (w3.alloc (.cells #[.int .i64 y.k, .int .u64 (wd y.S 0), .int .u64 (wd y.S 1), .int .u64 (wd y.S 2), .int .u64 (wd y.S 3), .string y.t, .slice y.a y.kids.length y.c] 43)) _ l) := (HK.out.1.below hb3).below ((Below.refl _ w3).alloc (Nat.le_refl _) _); have R3 : Hid (Rq T.size g L w (w3.alloc (.cells #[.int .i64 y.k, .int .u64 (wd y.S 0), .int .u64 (wd y.S 1), .int .u64 (wd y.S 2), .int .u64 (wd y.S 3), .string y.t, .slice y.a y.kids.length y.c] 43))) := (HK.out.2.below hb3).alloc _; have bE : Hid (BoxN (w3.alloc (.cells y.cells 43)) w3.heap.size 43 y.cells) := BoxN.new w3 43 y.cells; have ce := bE.out.cell; rw [cells_eq] at ce bE; have HYO : Hid (y.Ou (wr.heap.size ≤ ·) (w3.alloc (.cells #[.int .i64 y.k, .int .u64 (wd y.S 0), .int .u64 (wd y.S 1), .int .u64 (wd y.S 2), .int .u64 (wd y.S 3), .string y.t, .slice y.a y.kids.length y.c] 43))) := hyo.gr (World.grownBy_alloc w3 _ none) (fun b hb _ => ⟨by simp, hb⟩); have HE : Hid (w.heap.size + 1 ≤ wr.heap.size) := HK.out.2.res.lt; clear hyo hm hjv hb3 HS)
      | (at_builtin; refine wpList_app_kq rfl _ _ rfl K3.out R3.out rfl (H := w3.heap.size + 1) (by simp) rfl (fun k hk => (HK.out.1.blk k hk).2) HE.out HYO.out hll ?_; intro g4 cap4 w4 k4 r4; have K4 : Hid _ := k4; have R4 : Hid _ := r4; have c4 := R4.out.tw.kind HV.out; clear k4 r4 ce)
      | (go_at_call 34; refine (gathered_kq 6 K4.out R4.out (by have := HU.out.2.2.2.1; omega)).mono ?_; rintro e w6 ⟨⟨z, rfl, hze, hzo⟩, hb6⟩; have R6 : Hid _ := R4.out.below hb6; have HZO : Hid _ := hzo; clear hzo hb6)
      | (refine wpList_store_box rfl 43 _ _ rfl w.heap.size _ rfl rfl z7 R6.out.res Tryz.info43 rfl (by simp [Value.oneCell']) ?_; intro w7 hx7 hg7; have hc := hx7.cell)
      | (refine wpList_store_box rfl 43 _ _ rfl w.heap.size _ rfl rfl z7 R3.out.res Tryz.info43 rfl (by simp [Value.oneCell']) ?_; intro w7 hx7 hg7; have hc := hx7.cell))
    · have hb : b = false := by have h := ‹(!b) = true›; simpa using h
      have hy7 : y.Ou (w.heap.size ≤ ·) w7 := HYO.out.gr hg7 (fun b hb _ => ⟨fun e => by cases e; have := HE.out; omega, by have := HE.out; omega⟩)
      exact bodyPost_ret (by simp [results, Tryz.results13, go_sem, hc]) rfl ⟨⟨y, j2, v2, false, rfl, hy7, HV.out, by rw [SK.out.no hb]; exact ⟨rfl, fun h => by cases h⟩⟩, R3.out.last hg7⟩
    · have hb : b = true := by have h := ‹(!b) = false›; simpa using h
      have hbg : ¬ v2.k = 47 := fun h47 => by have h := ‹(((rk v2.k).toNat : Int) != 47) = true›; rw [h47] at h; revert h; decide
      refine bodyPost_ret (by simp [results, Tryz.results13, go_sem, hc]) rfl ⟨⟨z, j2, v2, true, rfl, kq_says HZO.out hg7, HV.out, ?_⟩, R6.out.last hg7⟩
      rcases SK.out.ends hb hbg with ⟨h4, h⟩ | h
      · rw [h]; exact ⟨rfl, fun _ => h4⟩
      · rw [h]; exact ⟨rfl, hze, rfl⟩
    · have hb : b = true := by have h := ‹(!b) = false›; simpa using h
      have hbg : v2.k = 47 := by
        have h := ‹(((rk v2.k).toNat : Int) != 47) = false›
        rw [← (rk_fin v2.k (HX.out.1.kd HV.out)).2.2.2.2.2.2.1]
        rw [bne_eq_false_iff_eq] at h
        exact UInt8.toNat_inj.1 (by show (rk v2.k).toNat = 47; omega)
      have hmo := SK.out.more hb hbg j2 HV.out
      go_roundg u.s.length
      case measure => exact HU.out.2.2.1
      case rel => exact ⟨j2 + 1, l ++ [y], tok v2.r, by go_num, ⟨K4.out, R4.out⟩, hmo.2.1, by have := HU.out.2.1; have := hmo.2.2; omega, hmo.2.2, by have := HU.out.2.2.2.1; have := hmo.2.2; simp; omega, by rw [List.map_append, List.map_cons, List.map_nil]; exact hmo.1.symm⟩
theorem rread (T : ByteArray) (g cap : Nat) (L : List Tk) (hT : T.size ≤ 1000000) (hL : TL T L) : ∀ n, RDoes T g cap L 60 n (preP n)
  | 0 => fun i t w _ h => by omega
  | n + 1 => by
    have h0 := rread T g cap L hT hL n
    have hg := preP_fine (T := T.data.toList) n
    have h1 := rseq_does T g cap n L (preP n) hT hL hg (preP_tells n) h0
    have h2 := ralt_does T g cap n L (preP n) hT hL hg (preP_tells n) h1
    exact rpre_does T g cap n L hT hL h0 (rprim_does T g cap n L (preP n) hT hL (preP_tells n) h2)
theorem ralt_any (T : ByteArray) (g cap : Nat) (L : List Tk) (hT : T.size ≤ 1000000) (hL : TL T L) (n : Nat) : RDoes T g cap L 13 n (altP (preP n)) :=
  ralt_does T g cap n L (preP n) hT hL (preP_fine (T := T.data.toList) n) (preP_tells n) (rseq_does T g cap n L (preP n) hT hL (preP_fine (T := T.data.toList) n) (preP_tells n) (rread T g cap L hT hL n))
end Go.Proofs.YtbeohmcmphebhaaGreatDoor
namespace Go.Proofs.YtbeohmcmphebhaaGreatDoor
open Go.RowKit
set_option linter.unusedVariables false
/-! Parts of a box stored anew. -/
def setl : Array Value → Nat → List Value → Array Value
  | old, _, [] => old
  | old, o, v :: r => setl (old.setIfInBounds o v) (o + 1) r
theorem setl_size : ∀ (vs : List Value) (old : Array Value) (o : Nat), (setl old o vs).size = old.size
  | [], _, _ => rfl
  | v :: r, old, o => by rw [setl, setl_size r]; simp
theorem box_setCells {B : Nat} {t : TypeId} : ∀ (vs : List Value) (W : World) (o : Nat) (cs : Array Value), BoxN W B t cs → BoxN (W.setCells B o vs) B t (setl cs o vs) ∧ W.grownBy (W.setCells B o vs) (some B)
  | [], W, o, cs, h => ⟨h, gr_refl B W⟩
  | v :: r, W, o, cs, h => by
    rw [World.setCells, setl]
    obtain ⟨h1, h2⟩ := box_setCells r (W.setCell ⟨B, o, none⟩ v) (o + 1) _ (box_set h o v)
    exact ⟨h1, gr_trans (Go.Lib.grownBy_setCell W B o v) h2⟩
theorem box_there {W : World} {B : Nat} {t : TypeId} {cs : Array Value} (h : BoxN W B t cs) (o n : Nat) (hn : o + n ≤ cs.size) : W.there B o n := fun j hj => by
  refine ⟨?_, h.frozen _⟩
  rw [h.cell, Array.getElem?_eq_getElem (by omega)]; rfl
theorem wpList_store_part {ops : Array Oper} {rest : List Oper} {o : Oper} {a : Act} {w : World} {Q : Exit → Act → World → Prop} (hgd : o.guard = none) (ty : TypeId) (x y : Operand) (ho : o.op = .store ty x y)
    (B off : Nat) (cs : Array Value) (hx : a.eval x = .pointer (some ⟨B, off, none⟩)) (hy : a.eval y = .agg cs) (t : TypeId) (old : Array Value) (hb : BoxN w B t old) (hn : off + cs.size ≤ old.size)
    (hi : (Tryz.prog.info? ty).map (·.size) = some cs.size) (h1 : cs.all (·.oneCell') = true)
    (h : ∀ w', BoxN w' B t (setl old off cs.toList) → w.grownBy w' (some B) → wpList Tryz.prog ops Q rest (a.put o.dst undef) w') : wpList Tryz.prog ops Q (o :: rest) a w := by
  obtain ⟨h2, h3⟩ := box_setCells cs.toList w off old hb
  exact wpList_store_mid hgd ty x y ho B off cs hx hy (box_there hb off cs.size hn) hi h1 (h _ h2 h3)
theorem wpList_store_cell {ops : Array Oper} {rest : List Oper} {o : Oper} {a : Act} {w : World} {Q : Exit → Act → World → Prop} (hgd : o.guard = none) (ty : TypeId) (x y : Operand) (ho : o.op = .store ty x y)
    (B off : Nat) (v : Value) (hx : a.eval x = .pointer (some ⟨B, off, none⟩)) (hy : a.eval y = v) (t : TypeId) (old : Array Value) (hb : BoxN w B t old) (hn : off < old.size)
    (hi : (Tryz.prog.info? ty).map (·.size) = some 1) (h1 : v.oneCell' = true)
    (h : ∀ w', BoxN w' B t (old.setIfInBounds off v) → w.grownBy w' (some B) → wpList Tryz.prog ops Q rest (a.put o.dst undef) w') : wpList Tryz.prog ops Q (o :: rest) a w :=
  wpList_plain hgd fun _ hK => by
    have hth := box_there hb off 1 (by omega)
    have hc : v.cells = #[v] := by cases v <;> first | rfl | cases h1
    have hst := run_storeCells_cells (P := Tryz.prog) B off [v] 0 w (fun j hj => by simpa using (hth j (by simpa using hj)).1) (fun j hj => by simpa using (hth j (by simpa using hj)).2) (fun u hu => by simp at hu; subst hu; exact h1)
    have hrun : (storeVar ty ⟨B, off, none⟩ v).run Tryz.prog w = .ok () (w.setCells B off [v]) := by
      cases hq : Tryz.prog.info? ty with
      | none => simp [hq] at hi
      | some i =>
        have hs : i.size = 1 := by simpa [hq] using hi
        simp only [Nat.add_zero] at hst
        simp [storeVar, sizeOf, typeInfo, hq, hc, hs, hst]
    unfold Oper.wp execOp
    simp only [ho, hx, hy, Instr.storeAt, Instr.sureAddr, Sem.run_bind, Sem.run_pure, Result.andThen_ok, hrun]
    obtain ⟨h2, h3⟩ := box_setCells [v] w off old hb
    exact hK _ _ (h _ h2 h3)
theorem Tryz.size5 : (Tryz.prog.info? 5).map (·.size) = some 1 := by kernel_rfl
theorem Tryz.size9 : (Tryz.prog.info? 9).map (·.size) = some 1 := by kernel_rfl
end Go.Proofs.YtbeohmcmphebhaaGreatDoor
namespace Go.Proofs.YtbeohmcmphebhaaGreatDoor
open Go.RowKit
set_option linter.unusedVariables false
/-! Tokens one behind the other, as far as they have been cut. -/
structure Pt (T : List UInt8) (L : List Tk) (l : List UInt8) : Prop where
  is : ∀ (j : Nat) (t : Tk), L[j]? = some t → t = tokS t.s ∧ t.s <:+ T
  nx : ∀ (j : Nat) (t : Tk), L[j]? = some t → (L ++ [tok l])[j + 1]? = some (tok t.r)
  fst : (L ++ [tok l])[0]? = some (tok T)
  len : L.length + l.length ≤ T.length
  suf : l <:+ T
theorem Pt.start (T : List UInt8) : Pt T [] T := ⟨fun j t h => by simp at h, fun j t h => by simp at h, rfl, by simp, List.suffix_refl _⟩
theorem tok_suf (l : List UInt8) : (tok l).s <:+ l := by unfold tok; rw [tokS_s]; exact skip_suf l
theorem tok_self (l : List UInt8) : tok l = tokS (tok l).s := by unfold tok; rw [tokS_s]
theorem app_get {α : Type} (L : List α) (x : α) (j : Nat) (t : α) (h : (L ++ [x])[j]? = some t) : L[j]? = some t ∨ (j = L.length ∧ t = x) := by
  by_cases hj : j < L.length
  · left; rwa [List.getElem?_append_left hj] at h
  · right
    have := (List.getElem?_eq_some_iff.1 h).1
    simp at this
    have hj : j = L.length := by omega
    subst hj
    simp at h
    exact ⟨rfl, h.symm⟩
theorem Pt.push {T : List UInt8} {L : List Tk} {l : List UInt8} (h : Pt T L l) (h0 : (tok l).k ≠ 0) (h4 : (tok l).k ≠ 4) : Pt T (L ++ [tok l]) (tok l).r := by
  have hr := tokS_r (tok l).s (by rw [← tok_self]; exact h0) (by rw [← tok_self]; exact h4)
  rw [← tok_self] at hr
  have hs := tok_suf l
  refine ⟨fun j t hj => ?_, fun j t hj => ?_, ?_, ?_, hr.2.trans (hs.trans h.suf)⟩
  · rcases app_get _ _ _ _ hj with hj | ⟨_, rfl⟩
    · exact h.is j t hj
    · exact ⟨tok_self l, hs.trans h.suf⟩
  · rcases app_get _ _ _ _ hj with hj | ⟨rfl, rfl⟩
    · have h1 := h.nx j t hj
      have := (List.getElem?_eq_some_iff.1 h1).1
      rw [List.getElem?_append_left this]; exact h1
    · rw [List.getElem?_append_right (by simp)]; simp
  · rw [List.getElem?_append_left (by simp)]; exact h.fst
  · have := h.len
    have := hr.1
    have := hs.length_le
    simp; omega
theorem Pt.fin {T : ByteArray} {L : List Tk} {l : List UInt8} (h : Pt T.data.toList L l) (h4 : (tok l).k = 0 ∨ (tok l).k = 4) : TL T (L ++ [tok l]) ∧ (L ++ [tok l])[0]? = some (tok T.data.toList) := by
  refine ⟨⟨fun j t hj => ?_, fun j t hj k0 k4 => ?_, ?_⟩, h.fst⟩
  · rcases app_get _ _ _ _ hj with hj | ⟨_, rfl⟩
    · exact h.is j t hj
    · exact ⟨tok_self l, (tok_suf l).trans h.suf⟩
  · rcases app_get _ _ _ _ hj with hj | ⟨_, rfl⟩
    · exact h.nx j t hj
    · rcases h4 with h | h
      · exact absurd h k0
      · exact absurd h k4
  · have := h.len
    rw [llen] at this
    simp; omega
/-! What a token is, by its first byte. -/
def tkN (k : UInt8) (s r : List UInt8) (e : Ex) : Tk := ⟨k, s, r, e⟩
theorem tok_at (l s : List UInt8) (h : skip l = s) : tok l = arr (tokB s) := by unfold tok tokS; rw [h]
theorem arr_id2 (t : Tk) (h3 : t.k ≠ 3) (h : t.k ≠ 1 ∨ t.e.k ≠ 4) : arr t = t := by
  unfold arr
  rw [if_neg h3, if_neg (fun h' => h.elim (fun h => h h'.1) (fun h => h h'.2.1))]
theorem arr_none (s : List UInt8) : arr ⟨3, s, [], nd 0 []⟩ = ⟨4, s, [], nd 0 []⟩ := rfl
theorem tokB_leaf (c : UInt8) (r : List UInt8) (h60 : c ≠ 60) (hsg : isSg c = false) : tokB (c :: r) = match leafAt (c :: r) with | some x => ⟨1, c :: r, (c :: r).drop x.2, x.1⟩ | none => ⟨3, c :: r, [], nd 0 []⟩ := by
  unfold tokB
  rw [if_neg (by simp), if_neg (fun h => h60 h.1), if_neg (by show ¬ isSg c = true; rw [hsg]; decide)]
  cases leafAt (c :: r) <;> rfl
theorem leafAt_cons (c : UInt8) (r : List UInt8) : leafAt (c :: r) = if c = 39 ∨ c = 34 then (unlit [39, 34, 92] (c :: r)).map fun x => (if x.1 = [] then nd 1 [] else lfT 3 x.1, x.2)
  else if c = 91 then (unclass (c :: r)).map fun x => (lfS x.1, x.2)
  else if c = 46 then some (lfS (BitVec.allOnes 256), 1)
  else if isL (c.toNat : Int) then some (lfT 4 ((c :: r).takeWhile okc), ((c :: r).takeWhile okc).length)
  else none := rfl
theorem rt_end (l : List UInt8) (h : skip l = []) : tok l = ⟨0, [], [], nd 0 []⟩ := by rw [tok_at l [] h]; rfl
theorem rt_lit (l : List UInt8) (c : UInt8) (r : List UInt8) (h : skip l = c :: r) (hc : c = 39 ∨ c = 34) :
    tok l = match unlit [39, 34, 92] (c :: r) with | some x => ⟨1, c :: r, (c :: r).drop x.2, if x.1 = [] then nd 1 [] else lfT 3 x.1⟩ | none => ⟨4, c :: r, [], nd 0 []⟩ := by
  rw [tok_at l _ h, tokB_leaf c r (by rcases hc with rfl | rfl <;> decide) (by rcases hc with rfl | rfl <;> decide)]
  have hl : leafAt (c :: r) = (unlit [39, 34, 92] (c :: r)).map fun x => (if x.1 = [] then nd 1 [] else lfT 3 x.1, x.2) := by rw [leafAt_cons, if_pos hc]
  rw [hl]
  cases unlit [39, 34, 92] (c :: r) with
  | none => rfl
  | some x =>
    refine arr_id2 _ (by show (1 : UInt8) ≠ 3; decide) (.inr ?_)
    show (if x.1 = [] then nd 1 [] else lfT 3 x.1).k ≠ 4
    split
    · show (1 : Int) ≠ 4; decide
    · show (3 : Int) ≠ 4; decide
theorem rt_cls (l : List UInt8) (r : List UInt8) (h : skip l = 91 :: r) :
    tok l = match unclass (91 :: r) with | some x => ⟨1, 91 :: r, (91 :: r).drop x.2, lfS x.1⟩ | none => ⟨4, 91 :: r, [], nd 0 []⟩ := by
  rw [tok_at l _ h, tokB_leaf 91 r (by decide) (by decide)]
  have hl : leafAt (91 :: r) = (unclass (91 :: r)).map fun x => (lfS x.1, x.2) := by rw [leafAt_cons, if_neg (by decide), if_pos rfl]
  rw [hl]
  cases unclass (91 :: r) with
  | none => rfl
  | some x => exact arr_id2 _ (by show (1 : UInt8) ≠ 3; decide) (.inr (by show (2 : Int) ≠ 4; decide))
theorem rt_dot (l : List UInt8) (r : List UInt8) (h : skip l = 46 :: r) : tok l = ⟨1, 46 :: r, r, lfS (BitVec.allOnes 256)⟩ := by
  rw [tok_at l _ h, tokB_leaf 46 r (by decide) (by decide)]
  have hl : leafAt (46 :: r) = some (lfS (BitVec.allOnes 256), 1) := by rw [leafAt_cons, if_neg (by decide), if_neg (by decide), if_pos rfl]
  rw [hl]
  exact arr_id2 _ (by show (1 : UInt8) ≠ 3; decide) (.inr (by show (2 : Int) ≠ 4; decide))
theorem isL_sg {c : UInt8} (h : isL (c.toNat : Int) = true) : c ≠ 60 ∧ isSg c = false := by
  constructor
  · rintro rfl; revert h; decide
  · have : ∀ k : Fin 256, isL (k.val : Int) = true → isSg (UInt8.ofNat k.val) = false := by decide +kernel
    have := this ⟨c.toNat, c.toNat_lt⟩
    simp at this
    exact this h
theorem rt_name (l : List UInt8) (c : UInt8) (r : List UInt8) (h : skip l = c :: r) (hc : isL (c.toNat : Int) = true) :
    tok l = if (skip ((c :: r).drop ((c :: r).takeWhile okc).length)).headD 0 = 60 ∧ ((skip ((c :: r).drop ((c :: r).takeWhile okc).length)).drop 1).headD 0 = 45 then ⟨3, c :: r, (skip ((c :: r).drop ((c :: r).takeWhile okc).length)).drop 2, lfT 4 ((c :: r).takeWhile okc)⟩ else ⟨1, c :: r, (c :: r).drop ((c :: r).takeWhile okc).length, lfT 4 ((c :: r).takeWhile okc)⟩ := by
  obtain ⟨h1, h2, h3, h4⟩ := isL_not hc
  rw [tok_at l _ h, tokB_leaf c r (isL_sg hc).1 (isL_sg hc).2]
  have hl : leafAt (c :: r) = some (lfT 4 ((c :: r).takeWhile okc), ((c :: r).takeWhile okc).length) := by rw [leafAt_cons, if_neg (by rintro (e | e) <;> contradiction), if_neg h3, if_neg h4, if_pos hc]
  rw [hl]
  unfold arr
  rw [if_neg (by show ¬ (1 : UInt8) = 3; decide)]
  simp only [show (lfT 4 ((c :: r).takeWhile okc)).k = 4 from rfl, true_and]
theorem rt_arrow (l : List UInt8) (r : List UInt8) (h : skip l = 60 :: 45 :: r) : tok l = ⟨2, 60 :: 45 :: r, r, nd 0 []⟩ := by
  rw [tok_at l _ h]
  unfold tokB
  rw [if_neg (by simp), if_pos ⟨rfl, rfl⟩]; rfl
theorem sg_ne4 : ∀ k : Fin 256, isSg (UInt8.ofNat k.val) = true → UInt8.ofNat k.val ≠ 60 ∧ UInt8.ofNat k.val ≠ 3 ∧ UInt8.ofNat k.val ≠ 1 := by decide +kernel
theorem rt_sign (l : List UInt8) (c : UInt8) (r : List UInt8) (h : skip l = c :: r) (hc : isSg c = true) : tok l = ⟨c, c :: r, r, nd 0 []⟩ := by
  have hn := sg_ne4 ⟨c.toNat, c.toNat_lt⟩
  simp at hn
  obtain ⟨n1, n2, n3⟩ := hn hc
  rw [tok_at l _ h]
  unfold tokB
  rw [if_neg (by simp), if_neg (fun h => n1 h.1), if_pos (by exact hc)]
  exact arr_id2 _ n2 (.inl n3)
theorem rt_none (l : List UInt8) (c : UInt8) (r : List UInt8) (h : skip l = c :: r) (h1 : ¬ (c = 39 ∨ c = 34)) (h2 : ¬ c = 91) (h3 : ¬ c = 46) (h4 : isL (c.toNat : Int) = false) (h5 : ¬ (c = 60 ∧ r.headD 0 = 45)) (h6 : isSg c = false) : tok l = ⟨4, c :: r, [], nd 0 []⟩ := by
  rw [tok_at l _ h]
  unfold tokB
  rw [if_neg (by simp), if_neg (show ¬ ((c :: r).headD 0 = 60 ∧ ((c :: r).drop 1).headD 0 = 45) from h5), if_neg (by show ¬ isSg c = true; rw [h6]; decide)]
  have hl : leafAt (c :: r) = none := by rw [leafAt_cons, if_neg h1, if_neg h2, if_neg h3, if_neg (by rw [h4]; decide)]
  rw [hl]; rfl
end Go.Proofs.YtbeohmcmphebhaaGreatDoor
namespace Go.Proofs.YtbeohmcmphebhaaGreatDoor
open Go.RowKit
set_option linter.unusedVariables false
def tkL (n : Nat) (l : List Tk) : List Value := l.flatMap fun t => (tkcs n t).toList
theorem tkL_len (n : Nat) : ∀ l : List Tk, (tkL n l).length = l.length * 10
  | [] => rfl
  | x :: r => by rw [show tkL n (x :: r) = (tkcs n x).toList ++ tkL n r from rfl, List.length_append, tkL_len n r, List.length_cons]; show 10 + _ = _; omega
theorem tkL_at (n : Nat) : ∀ (l : List Tk) (i j : Nat) (x : Tk), l[i]? = some x → j < 10 → (tkL n l)[i * 10 + j]? = (tkcs n x)[j]?
  | [], i, j, x, h, _ => by simp at h
  | y :: r, 0, j, x, h, hj => by
    simp at h; subst h
    rw [show tkL n (y :: r) = (tkcs n y).toList ++ tkL n r from rfl, Nat.zero_mul, Nat.zero_add, List.getElem?_append_left (by show j < 10; exact hj), Array.getElem?_toList]
  | y :: r, i + 1, j, x, h, hj => by
    rw [show tkL n (y :: r) = (tkcs n y).toList ++ tkL n r from rfl, List.getElem?_append_right (by show 10 ≤ _; omega), show (i + 1) * 10 + j - (tkcs n y).toList.length = i * 10 + j from by show _ - 10 = _; omega]
    exact tkL_at n r i j x (by simpa using h) hj
theorem tkL_app (n : Nat) (l : List Tk) (x : Tk) : tkL n (l ++ [x]) = tkL n l ++ (tkcs n x).toList := by simp [tkL]
theorem tk_one (n : Nat) (x : Tk) : ∀ u ∈ (tkcs n x).toList, u.oneCell' = true := by
  intro u hu
  simp [tkcs] at hu
  rcases hu with rfl | rfl | rfl | rfl | rfl | rfl | rfl | rfl | rfl | rfl <;> rfl
def zt : Array Value := #[.int .u8 0, .int .i64 0, .int .i64 0, .int .u64 0, .int .u64 0, .int .u64 0, .int .u64 0, .string ⟨#[]⟩, .slice none 0 0, .string ⟨#[]⟩]
theorem Tryz.infoT : (Tryz.prog.info? 45).map (fun i => (i.zero, i.size, i.bytes)) = some (some (.agg zt), 10, 112) := by kernel_rfl
theorem Tryz.underlyingT : Tryz.prog.underlying 36 = some (.slice 45) := by kernel_rfl
/-- Where the tokens lie that have been cut. -/
structure Tq (n : Nat) (w wr : World) (v : Value) (L : List Tk) : Prop where
  own : wr.ownsRow w.heap.size 45 10 v L.length (tkL n L)
  bel : Below w.heap.size w wr
theorem Tq.start (n : Nat) (w : World) : Tq n w w (.slice none 0 0) [] := ⟨World.ownsRow_nil _ _ _ _, Below.refl _ w⟩
theorem Tq.below {n : Nat} {w wr w1 : World} {v : Value} {L : List Tk} (h : Tq n w wr v L) (hb : Below wr.heap.size wr w1) : Tq n w w1 v L :=
  ⟨h.own.kept (below_grown hb) (by cases v.ownBlock <;> simp), h.bel.trans (hb.mono h.bel.size)⟩
theorem Tq.alloc {n : Nat} {w wr : World} {v : Value} {L : List Tk} (h : Tq n w wr v L) (o : Obj) : Tq n w (wr.alloc o) v L := h.below ((Below.refl _ wr).alloc (Nat.le_refl _) o)
theorem Tq.drew {n : Nat} {w wr : World} {v : Value} {L : List Tk} (h : Tq n w wr v L) : Tq n w wr.drew v L := h.below (Below.refl _ wr).drew
theorem Tq.blk {n : Nat} {w wr : World} {v : Value} {L : List Tk} (h : Tq n w wr v L) (k : Nat) (hk : v.ownBlock = some k) : w.heap.size ≤ k ∧ k < wr.heap.size := h.own.lt k hk
/-- A box of the round's own was turned. -/
theorem Tq.box {n P : Nat} {w wr w1 : World} {v : Value} {L : List Tk} (h : Tq n w wr v L) (hP : ∀ k, v.ownBlock = some k → k < P) (hw : w.heap.size ≤ P) (hg : wr.grownBy w1 (some P)) : Tq n w w1 v L :=
  ⟨h.own.kept hg (by
    cases hv : v.ownBlock with
    | none => exact .inl rfl
    | some k => right; have := hP k hv; intro e; cases e; omega), h.bel.grown hg h.bel.size (fun k e => by cases e; exact hw)⟩
theorem Tq.tw {n g m cap : Nat} {w wr : World} {L : List Tk} (h : Tq n w wr (.slice (some ⟨g, 0, none⟩) m cap) L) : TW n g L wr := by
  refine ⟨(h.blk g rfl).2, fun j t hj m hm => ?_⟩
  have h1 := tkL_at n L j m t hj hm
  obtain ⟨v, hv⟩ : ∃ v, (tkcs n t)[m]? = some v := ⟨_, Array.getElem?_eq_getElem (by show m < 10; exact hm)⟩
  rw [hv] at h1 ⊢
  have := World.ownsRow.cells h.own (g := g) rfl _ _ h1
  rwa [Addr.add_lit, Nat.zero_add] at this
theorem wpList_app_tk {ops : Array Oper} {rest : List Oper} {o : Oper} {a : Act} {Q : Exit → Act → World → Prop} (hgd : o.guard = none) (s x : Operand)
    (ho : o.op = .call { callee := .builtin .append, args := #[s, x], argTypes := #[36, 36] }) {n : Nat} {w w1 : World} {v : Value} {L : List Tk} {t : Tk} {cs : Array Value} (h : Tq n w w1 v L)
    (hs : a.eval s = v) {H : Nat} (hH : w1.heap.size = H) (hx : a.eval x = .slice (some ⟨H, 0, none⟩) 1 1) (hcs : cs = tkcs n t) (hl : L.length ≤ 2000000)
    (hK : ∀ g3 cap3 w3, Tq n w w3 (.slice (some ⟨g3, 0, none⟩) (L.length + 1) cap3) (L ++ [t]) → wpList Tryz.prog ops Q rest (a.put o.dst (.slice (some ⟨g3, 0, none⟩) (L.length + 1) cap3)) w3) :
    wpList Tryz.prog ops Q (o :: rest) a (w1.alloc (.cells cs 45)) := by
  obtain ⟨i0, hi, hz0, hz1, hz2⟩ := info_parts Tryz.infoT
  subst hcs
  have hbs := h.bel.size
  have h1 := h.own.kept (World.grownBy_alloc w1 (.cells (tkcs n t) 45) none) (by cases v.ownBlock <;> simp)
  have hnews := World.news_of_block (World.alloc_heap_new w1 (.cells (tkcs n t) 45))
  subst hH
  refine wpList_append_lies _ hgd s x 36 ho w.heap.size 45 i0 (.agg zt) 10 112 Tryz.underlyingT hi hz0 hz1 hz2 rfl (by decide) v L.length (tkL n L) hs h1 ⟨w1.heap.size, 0, none⟩ 1 1 (tkcs n t).toList hx rfl hnews (tk_one n t) (by omega) (by unfold maxLen; omega) (by omega) (by simp; omega) (w1.heap.size + 1) (by simp) ?_
  intro g3 cap3 w3 hown hgr hor _
  refine hK g3 cap3 w3 ⟨by rw [tkL_app]; simpa using hown, ?_⟩
  have hA := h.alloc (.cells (tkcs n t) 45)
  exact hA.bel.grown hgr hA.bel.size (fun k hk => (h.blk k hk).1)
end Go.Proofs.YtbeohmcmphebhaaGreatDoor
