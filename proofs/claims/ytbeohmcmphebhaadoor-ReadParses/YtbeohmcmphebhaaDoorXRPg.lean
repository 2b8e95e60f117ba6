import Derived.Test.YtbeohmcmphebhaaDoorXRPc
import Derived.Laws.CopyRow
namespace Go.Proofs.YtbeohmcmphebhaaDoor
open Go.RowKit
open Ex.Ou (OuL)
set_option linter.unusedVariables false
theorem post_start {A : Rs} {y : Ex} {v : Tk} {b : Bool} (hm : match A with | .ok x => b = true ∧ y.er = x.1 ∧ v = x.2 | .error s => v.s = s ∧ (b = true → v.k = 4)) (h4 : ∀ x, A = .ok x → x.2.k ≠ 4) :
    (b = true → (thn A fun x => postL x.2.s.length x.1 x.2) = postG y.er v) ∧ (b = false → (thn A fun x => postL x.2.s.length x.1 x.2) = .error v.s) := by
  cases A with
  | error s =>
    rw [thn_error]
    refine ⟨fun h => ?_, fun _ => by rw [hm.1]⟩
    unfold postG
    rw [if_pos (hm.2 h), hm.1]
  | ok x =>
    rw [thn_ok]
    refine ⟨fun _ => ?_, fun h => ?_⟩
    · unfold postG
      rw [hm.2.2, if_neg (h4 x rfl), hm.2.1]
    · rw [hm.1] at h; cases h
theorem primP_ok4 {T : ByteArray} {L : List Tk} (hL : TL T L) {i : Nat} {t : Tk} (hi : L[i]? = some t) (n : Nat) (hn : t.s.length < n + 1) (x : Ex × Tk) (hx : primP (preP n) t = .ok x) : x.2.k ≠ 4 := by
  by_cases h4 : t.k = 4
  · exfalso
    unfold primP at hx
    rw [if_neg (by rw [h4]; decide), if_neg (by rw [h4]; decide)] at hx
    cases hx
  · have := primP_fine (preP_fine (T := T.data.toList) n) t (hL.of hi h4) (by omega)
    rw [hx] at this
    exact this.1.2.2
theorem kindB_4 {k : UInt8} (h : kindB k ≠ 0) : k ≠ 4 := by rintro rfl; exact h rfl
theorem kindB_bd (k : UInt8) : kindB k = 0 ∨ (7 ≤ kindB k ∧ kindB k ≤ 9) := by
  unfold kindB
  split
  · right; decide
  split
  · right; decide
  split
  · right; decide
  · left; rfl
set_option maxRecDepth 20000 in
set_option maxHeartbeats 8000000 in
theorem rpre_post (T : ByteArray) (g cap n : Nat) (L : List Tk) (hT : T.size ≤ 1000000) (hL : TL T L) (hd : RDoes T g cap L 79 (n + 1) (primP (preP n))) (i : Nat) (t : Tk) (w : World) (hi : L[i]? = some t) (hn : t.s.length < n + 1) (hw : TW T.size g L w) (h38 : ¬ t.k = 38) (h33 : ¬ t.k = 33) :
    Calls Tryd.prog 63 #[.slice (some ⟨g, 0, none⟩) L.length cap, .int .i64 i] w fun e w' => RdP L w.heap.size w' (thn (primP (preP n) t) fun x => postL x.2.s.length x.1 x.2) e ∧ Below w.heap.size w w' := by
  have hkd := rk_fin t.k (hL.kd hi)
  have g1 : (((rk t.k).toNat : Int) == 38) = false := rk_ne (by decide) (by rw [show (UInt8.ofNat 38) = 38 from rfl, hkd.2.2.2.2.2.2.2.1]; exact h38)
  have g2 : (((rk t.k).toNat : Int) == 126) = false := rk_ne (by decide) (by rw [show (UInt8.ofNat 126) = 126 from rfl, hkd.2.2.2.2.2.2.2.2.1]; exact h33)
  have R0 : Hid (Rq T.size g L w (w.alloc (.cells z7 27))) := Rq.start hw
  have hpm := hd i t (w.alloc (.cells z7 27)) hi hn R0.out.tw
  have h4 := primP_ok4 hL hi n hn
  have hil := get_lt hi
  have hln := hL.len
  have c0 := R0.out.tw.kind hi
  generalize primP (preP n) t = A at *
  have HS : Hid (∀ (y : Ex) (v : Tk) (b : Bool), (match (generalizing := false) A with | .ok x => b = true ∧ y.er = x.1 ∧ v = x.2 | .error s => v.s = s ∧ (b = true → v.k = 4)) → (b = true → (thn A fun x => postL x.2.s.length x.1 x.2) = postG y.er v) ∧ (b = false → (thn A fun x => postL x.2.s.length x.1 x.2) = .error v.s)) := fun y v b hm => post_start hm h4
  generalize (thn A fun x => postL x.2.s.length x.1 x.2) = R at *
  unfold RdP at hpm
  rw [z7_eq] at c0 hpm
  have HL : Hid (TL T L) := hL
  have hix : ∀ (c : UInt8) (W : World), Calls Tryd.prog 35 #[.string ⟨#[42, 43, 63]⟩, .int .u8 (c.toNat : Int)] W fun e w' => e = .returned (.int .i64 (Lib.indexByte [42, 43, 63] c)) ∧ w' = W := fun c W => by
    have := Tryd.strings_IndexByte ⟨#[42, 43, 63]⟩ (c.toNat : Int) W
    simpa using this
  clear hkd hi hn hw h38 h33 hd hL h4
  go_enter Tryd.func63, Tryd.ntmps63
  go_wp2_with (first
    | (go_at_call 79; refine hpm.mono ?_; clear hpm; rintro e w3 ⟨⟨y, j, v, b, rfl, hyo, hjv, hm⟩, hb3⟩; rw [← z7_eq] at hyo hb3; have HYO : Hid _ := hyo; have HM : Hid _ := HS.out y v b hm; have HV : Hid _ := hjv; have R3 : Hid _ := R0.out.below hb3; clear hyo hm hjv hb3 HS))
  have HE : Hid (w.heap.size < w3.heap.size) := R3.out.res.lt
  have S0 : Hid (Rq T.size g L w (w3.alloc (.cells y.cells 27)) ∧ BoxN (w3.alloc (.cells y.cells 27)) w3.heap.size 27 y.cells ∧ y.Ou (fun b => w.heap.size + 1 ≤ b ∧ b ≠ w3.heap.size) (w3.alloc (.cells y.cells 27))) :=
    ⟨R3.out.alloc _, BoxN.new w3 27 y.cells, Ex.Ou.gr (World.grownBy_alloc w3 (.cells y.cells 27) none) (fun b hb hlt => ⟨by simp, by simp at hb; omega, by omega⟩) HYO.out⟩
  rw [cells_eq] at S0
  cases b with
  | false =>
    have HR : Hid (R = .error v.s) := HM.out.2 rfl
    clear HM R0 R3 HYO
    have ce := S0.out.2.1.cell
    go_loopg [1] 0 (fun _ q wr => q = .int .i64 j ∧ wr = w3.alloc (.cells #[.int .i64 y.k, .int .u64 (wd y.S 0), .int .u64 (wd y.S 1), .int .u64 (wd y.S 2), .int .u64 (wd y.S 3), .string y.t, .slice y.a y.kids.length y.c] 27))
    case atStart => exact ⟨rfl, rfl⟩
    case round =>
      obtain ⟨rfl, rfl⟩ := hrel
      go_wp2_with (first
        | (refine wpList_store_box rfl 27 _ _ rfl w.heap.size _ rfl rfl z7 S0.out.1.res Tryd.info27 rfl (by simp [Value.oneCell']) ?_; intro w5 hx5 hg5; have hc := hx5.cell))
      have hy5 : y.Ou (w.heap.size ≤ ·) w5 := S0.out.2.2.gr hg5 (fun b hb _ => ⟨fun e => by cases e; have := hb.1; omega, by have := hb.1; omega⟩)
      exact bodyPost_ret (by simp [results, Tryd.results63, go_sem, hc]) rfl ⟨⟨y, j, v, false, rfl, hy5, HV.out, by rw [HR.out]; exact ⟨rfl, fun h => by cases h⟩⟩, S0.out.1.last hg5⟩
  | true =>
    have HR : Hid (R = postG y.er v) := HM.out.1 rfl
    clear HM R0 R3 HYO
    go_loopg [1] (v.s.length + 1) (fun gk q wr => ∃ (j : Nat) (y : Ex) (u : Tk), q = .int .i64 j ∧ Hid (Rq T.size g L w wr ∧ BoxN wr w3.heap.size 27 y.cells ∧ y.Ou (fun b => w.heap.size + 1 ≤ b ∧ b ≠ w3.heap.size) wr ∧ L[j]? = some u ∧ u.s.length < gk ∧ postG y.er u = R))
    case atStart => exact ⟨j, y, v, rfl, S0.out.1, S0.out.2.1, S0.out.2.2, HV.out, Nat.lt_succ_self _, HR.out.symm⟩
    case round =>
      clear S0 HR HV
      obtain ⟨j, y, u, rfl, HQ⟩ := hrel
      generalize w3.heap.size = E at *
      have hju := get_lt HQ.out.2.2.2.1
      have cu := HQ.out.1.tw.kind HQ.out.2.2.2.1
      have ce := HQ.out.2.1.cell
      rw [cells_eq] at ce
      have hx := hix (rk u.k)
      have hkd : Hid _ := rk_fin u.k (HL.out.kd HQ.out.2.2.2.1)
      by_cases hk0 : kindB u.k = 0
      · have hlt := hkd.out.2.1.1 hk0
        generalize Lib.indexByte [42, 43, 63] (rk u.k) = q at *
        have gl : decide (q < 0) = true := decide_eq_true hlt
        clear hlt
        go_wp2_with (first
          | (go_at_call 35; refine (hx _).mono ?_; rintro e w2 ⟨rfl, rfl⟩)
          | (refine wpList_store_box rfl 27 _ _ rfl w.heap.size _ rfl rfl z7 HQ.out.1.res Tryd.info27 rfl (by simp [Value.oneCell']) ?_; intro w5 hx5 hg5; have hc := hx5.cell))
        have hy5 : y.Ou (w.heap.size ≤ ·) w5 := HQ.out.2.2.1.gr hg5 (fun b hb _ => ⟨fun e => by cases e; have := hb.1; omega, by have := hb.1; omega⟩)
        refine bodyPost_ret (by simp [results, Tryd.results63, go_sem, hc]) rfl ⟨⟨y, j, u, true, rfl, hy5, HQ.out.2.2.2.1, ?_⟩, HQ.out.1.last hg5⟩
        have hp := HQ.out.2.2.2.2.2
        by_cases h4 : u.k = 4
        · unfold postG at hp
          rw [if_pos h4] at hp
          rw [← hp]; exact ⟨rfl, fun _ => h4⟩
        · rw [postG_no h4 hk0] at hp
          rw [← hp]; exact ⟨rfl, rfl, rfl⟩
      · have hq := hkd.out.2.2.1 hk0
        have hbd := kindB_bd u.k
        obtain ⟨hn1, hn2⟩ := HL.out.next HQ.out.2.2.2.1 (kindB_ne hk0) (kindB_4 hk0)
        have hm := postG_more (e := y.er) (HL.out.of HQ.out.2.2.2.1 (kindB_4 hk0)) hk0
        have HN : Hid (L[j + 1]? = some (tok u.r) ∧ (tok u.r).s.length < u.s.length ∧ postG (nd (kindB u.k) [y.er]) (tok u.r) = R) := ⟨hn1, hn2, by rw [← hm]; exact HQ.out.2.2.2.2.2⟩
        generalize kindB u.k = kk at *
        generalize Lib.indexByte [42, 43, 63] (rk u.k) = q at *
        have gl : decide (q < 0) = false := decide_eq_false (by omega)
        have hln2 := HL.out.len
        subst hq
        have bE2 : Hid (BoxN (wr.alloc (.cells #[.int .i64 y.k, .int .u64 (wd y.S 0), .int .u64 (wd y.S 1), .int .u64 (wd y.S 2), .int .u64 (wd y.S 3), .string y.t, .slice y.a y.kids.length y.c] 27)) E 27 y.cells) := HQ.out.2.1.alloc _
        have bK : Hid (BoxN (wr.alloc (.cells #[.int .i64 y.k, .int .u64 (wd y.S 0), .int .u64 (wd y.S 1), .int .u64 (wd y.S 2), .int .u64 (wd y.S 3), .string y.t, .slice y.a y.kids.length y.c] 27)) wr.heap.size 27 y.cells) := BoxN.new wr 27 y.cells
        have HEw : Hid (E < wr.heap.size ∧ w.heap.size < wr.heap.size) := ⟨HQ.out.2.1.lt, HQ.out.1.res.lt⟩
        clear hm hn1 hn2
        go_wp2_with (first
          | (go_at_call 35; refine (hx _).mono ?_; rintro e w2 ⟨rfl, rfl⟩)
          | (refine wpList_store_box rfl 27 _ _ rfl E _ rfl rfl y.cells bE2.out Tryd.info27 rfl (by simp [Value.oneCell']) ?_; intro w5 hx5 hg5))
        go_roundg u.s.length
        case measure => exact HQ.out.2.2.2.2.1
        case rel =>
          have hz := one_ou (P := fun b => w.heap.size + 1 ≤ b ∧ b ≠ E) (7 + q) (bK.out.kept hg5 (fun e => absurd (Option.some.inj e) (by have := HEw.out.1; omega))) ⟨HEw.out.2, fun e => by have := HEw.out.1; omega⟩ (HQ.out.2.2.1.gr (grown_alloc _ hg5) (fun b hb _ => ⟨fun e => by cases e; exact hb.2 rfl, hb⟩))
          refine ⟨j + 1, _, tok u.r, by go_num, (HQ.out.1.alloc _).own hg5 (fun k e => by cases e; exact HE.out), ?_, hz, HN.out.1, HN.out.2.1, ?_⟩
          · simpa [Ex.cells, Ex.k, Ex.S, Ex.t, Ex.a, Ex.c, Ex.kids, wd_zero] using hx5
          · rw [er_eq]; exact HN.out.2.2
theorem rpre_does (T : ByteArray) (g cap n : Nat) (L : List Tk) (hT : T.size ≤ 1000000) (hL : TL T L) (hd : RDoes T g cap L 63 n (preP n)) (hp : RDoes T g cap L 79 (n + 1) (primP (preP n))) : RDoes T g cap L 63 (n + 1) (preP (n + 1)) := by
  intro i t w hi hn hw
  rw [preP]
  split
  · rename_i h; exact rpre_and T g cap n L hT hL hd i t w hi hn hw h
  split
  · rename_i h; exact rpre_not T g cap n L hT hL hd i t w hi hn hw h
  · rename_i h1 h2; exact rpre_post T g cap n L hT hL hp i t w hi hn hw h1 h2
end Go.Proofs.YtbeohmcmphebhaaDoor
namespace Go.Proofs.YtbeohmcmphebhaaDoor
open Go.RowKit
open Ex.Ou (OuL)
set_option linter.unusedVariables false
/-- What is known behind one of several alternatives. -/
structure AltK (T : ByteArray) (L : List Tk) (n : Nat) (pre : Tk → Rs) (R : Rs) (l : List Ex) (u : Tk) (y : Ex) (v : Tk) (b : Bool) : Prop where
  no : b = false → R = .error v.s
  ends : b = true → ¬ v.k = 47 → (v.k = 4 ∧ R = .error v.s) ∨ R = .ok (gath 6 (l ++ [y.er]), v)
  more : b = true → v.k = 47 → ∀ j, L[j]? = some v → R = altG pre (l ++ [y.er]) (tok v.r) ∧ L[j + 1]? = some (tok v.r) ∧ (tok v.r).s.length < u.s.length
theorem altL_no' {pre : Tk → Rs} {m : Nat} {l : List Ex} {u : Tk} (h : ¬ u.k = 47) : altL pre m l u = .ok (gath 6 l, u) := by
  cases m with
  | zero => rfl
  | succ g => rw [altL, if_neg h]
theorem altK {T : ByteArray} {L : List Tk} (hL : TL T L) {n : Nat} {pre : Tk → Rs} (hg : Goes T.data.toList n pre) (ht : Tells pre) {j : Nat} {u : Tk} (hu : L[j]? = some u) (hun : u.s.length < n) (l : List Ex) {y : Ex} {v : Tk} {b : Bool} (hm : match seqP pre u with | .ok x => b = true ∧ y.er = x.1 ∧ v = x.2 | .error s => v.s = s ∧ (b = true → v.k = 4)) : AltK T L n pre (altG pre l u) l u y v b := by
  unfold altG
  cases hp : seqP pre u with
  | error s =>
    rw [hp] at hm
    rw [thn_error]
    refine ⟨fun _ => by rw [hm.1], fun h _ => .inl ⟨hm.2 h, by rw [hm.1]⟩, fun h h2 => ?_⟩
    rw [hm.2 h] at h2
    exact absurd h2 (by decide)
  | ok x =>
    rw [hp] at hm
    rw [thn_ok]
    have h4 : u.k ≠ 4 := fun h => by rw [seqP_tells ht u h] at hp; cases hp
    have hf := seqP_fine hg u (hL.of hu h4) hun
    rw [hp] at hf
    obtain ⟨f1, f2, _⟩ := hf
    obtain ⟨m1, m2, m3⟩ := hm
    rw [← m3] at f1 f2
    rw [← m2, ← m3]
    refine ⟨fun h => ?_, fun _ h => .inr (altL_no' h), fun _ h j hj => ?_⟩
    · rw [m1] at h; cases h
    · obtain ⟨n1, n2⟩ := hL.next hj (by rw [h]; decide) (by rw [h]; decide)
      exact ⟨altG_more hg ht _ v f1 (by omega) h, n1, by omega⟩
set_option maxRecDepth 20000 in
set_option maxHeartbeats 8000000 in
theorem ralt_does (T : ByteArray) (g cap n : Nat) (L : List Tk) (pre : Tk → Rs) (hT : T.size ≤ 1000000) (hL : TL T L) (hg : Goes T.data.toList n pre) (ht : Tells pre) (hd : RDoes T g cap L 36 n (seqP pre)) : RDoes T g cap L 17 n (altP pre) := by
  intro i t w hi hn hw
  rw [← altG_nil pre t]
  generalize hR : altG pre [] t = R
  have R0 : Hid (Rq T.size g L w (w.alloc (.cells z7 27))) := Rq.start hw
  have K0 : Hid (Kq w (w.alloc (.cells z7 27)) (.slice none 0 0) []) := Kq.start w _
  have HX : Hid (TL T L ∧ Goes T.data.toList n pre ∧ Tells pre ∧ RDoes T g cap L 36 n (seqP pre)) := ⟨hL, hg, ht, hd⟩
  have HI : Hid (L[i]? = some t ∧ t.s.length < n ∧ altG pre [] t = R) := ⟨hi, hn, hR⟩
  have hln := hL.len
  rw [z7_eq] at R0 K0
  clear hi hn hw hL hg ht hd hR
  go_enter Tryd.func17, Tryd.ntmps17
  go_wp2_with fail
  go_loopg [7, 1] (t.s.length + 1) (fun gk v q wr => ∃ (j : Nat) (l : List Ex) (u : Tk), q = .int .i64 j ∧ Hid (Kq w wr v l ∧ Rq T.size g L w wr) ∧ Hid (L[j]? = some u ∧ u.s.length < n ∧ u.s.length < gk ∧ l.length + u.s.length ≤ T.size ∧ altG pre (l.map Ex.er) u = R))
  case atStart => exact ⟨i, [], t, rfl, ⟨K0.out, R0.out⟩, HI.out.1, HI.out.2.1, Nat.lt_succ_self _, by have := HX.out.1.small HI.out.1; simp; omega, HI.out.2.2⟩
  case round =>
    clear K0 R0 HI
    obtain ⟨j, l, u, rfl, HK, HU⟩ := hrel
    have hjl := get_lt HU.out.1
    have hll : l.length ≤ 2000000 := by have := HU.out.2.2.2.1; omega
    have hpre := HX.out.2.2.2 j u wr HU.out.1 HU.out.2.1 HK.out.2.tw
    have HS : Hid (∀ (y : Ex) (v : Tk) (b : Bool), (match (generalizing := false) seqP pre u with | .ok x => b = true ∧ y.er = x.1 ∧ v = x.2 | .error s => v.s = s ∧ (b = true → v.k = 4)) → AltK T L n pre R (l.map Ex.er) u y v b) := fun y v b hm => by
      rw [← HU.out.2.2.2.2]
      exact altK HX.out.1 HX.out.2.1 HX.out.2.2.1 HU.out.1 HU.out.2.1 _ hm
    unfold RdP at hpre
    generalize seqP pre u = A at *
    go_wp2_with (first
      | (go_at_call 36; refine hpre.mono ?_; clear hpre; rintro e w3 ⟨⟨y, j2, v2, b, rfl, hyo, hjv, hm⟩, hb3⟩; have SK : Hid _ := HS.out y v2 b hm; have HV : Hid _ := hjv; have hj2 := get_lt hjv; have K3 : Hid (Kq w (w3.alloc (.cells #[.int .i64 y.k, .int .u64 (wd y.S 0), .int .u64 (wd y.S 1), .int .u64 (wd y.S 2), .int .u64 (wd y.S 3), .string y.t, .slice y.a y.kids.length y.c] 27)) _ l) := (HK.out.1.below hb3).below ((Below.refl _ w3).alloc (Nat.le_refl _) _); have R3 : Hid (Rq T.size g L w (w3.alloc (.cells #[.int .i64 y.k, .int .u64 (wd y.S 0), .int .u64 (wd y.S 1), .int .u64 (wd y.S 2), .int .u64 (wd y.S 3), .string y.t, .slice y.a y.kids.length y.c] 27))) := (HK.out.2.below hb3).alloc _; have bE : Hid (BoxN (w3.alloc (.cells y.cells 27)) w3.heap.size 27 y.cells) := BoxN.new w3 27 y.cells; have ce := bE.out.cell; rw [cells_eq] at ce bE; have HYO : Hid (y.Ou (wr.heap.size ≤ ·) (w3.alloc (.cells #[.int .i64 y.k, .int .u64 (wd y.S 0), .int .u64 (wd y.S 1), .int .u64 (wd y.S 2), .int .u64 (wd y.S 3), .string y.t, .slice y.a y.kids.length y.c] 27))) := hyo.gr (World.grownBy_alloc w3 _ none) (fun b hb _ => ⟨by simp, hb⟩); have HE : Hid (w.heap.size + 1 ≤ wr.heap.size) := HK.out.2.res.lt; clear hyo hm hjv hb3 HS)
      | (at_builtin; refine wpList_app_kq rfl _ _ rfl K3.out R3.out rfl (H := w3.heap.size + 1) (by simp) rfl (fun k hk => (HK.out.1.blk k hk).2) HE.out HYO.out hll ?_; intro g4 cap4 w4 k4 r4; have K4 : Hid _ := k4; have R4 : Hid _ := r4; have c4 := R4.out.tw.kind HV.out; clear k4 r4 ce)
      | (go_at_call 37; refine (gathered_kq 6 K4.out R4.out (by have := HU.out.2.2.2.1; omega)).mono ?_; rintro e w6 ⟨⟨z, rfl, hze, hzo⟩, hb6⟩; have R6 : Hid _ := R4.out.below hb6; have HZO : Hid _ := hzo; clear hzo hb6)
      | (refine wpList_store_box rfl 27 _ _ rfl w.heap.size _ rfl rfl z7 R6.out.res Tryd.info27 rfl (by simp [Value.oneCell']) ?_; intro w7 hx7 hg7; have hc := hx7.cell)
      | (refine wpList_store_box rfl 27 _ _ rfl w.heap.size _ rfl rfl z7 R3.out.res Tryd.info27 rfl (by simp [Value.oneCell']) ?_; intro w7 hx7 hg7; have hc := hx7.cell))
    · have hb : b = false := by have h := ‹(!b) = true›; simpa using h
      have hy7 : y.Ou (w.heap.size ≤ ·) w7 := HYO.out.gr hg7 (fun b hb _ => ⟨fun e => by cases e; have := HE.out; omega, by have := HE.out; omega⟩)
      exact bodyPost_ret (by simp [results, Tryd.results17, go_sem, hc]) rfl ⟨⟨y, j2, v2, false, rfl, hy7, HV.out, by rw [SK.out.no hb]; exact ⟨rfl, fun h => by cases h⟩⟩, R3.out.last hg7⟩
    · have hb : b = true := by have h := ‹(!b) = false›; simpa using h
      have hbg : ¬ v2.k = 47 := fun h47 => by have h := ‹(((rk v2.k).toNat : Int) != 47) = true›; rw [h47] at h; revert h; decide
      refine bodyPost_ret (by simp [results, Tryd.results17, go_sem, hc]) rfl ⟨⟨z, j2, v2, true, rfl, kq_says HZO.out hg7, HV.out, ?_⟩, R6.out.last hg7⟩
      rcases SK.out.ends hb hbg with ⟨h4, h⟩ | h
      · rw [h]; exact ⟨rfl, fun _ => h4⟩
      · rw [h]; exact ⟨rfl, hze, rfl⟩
    · have hb : b = true := by have h := ‹(!b) = false›; simpa using h
      have hbg : v2.k = 47 := by
        have h := ‹(((rk v2.k).toNat : Int) != 47) = false›
        rw [← (rk_fin v2.k (HX.out.1.kd HV.out)).2.2.2.2.2.2.1]
        rw [bne_eq_false_iff_eq] at h
        exact UInt8.toNat_inj.1 (by show (rk v2.k).toNat = 47; omega)
      have hmo := SK.out.more hb hbg j2 HV.out
      go_roundg u.s.length
      case measure => exact HU.out.2.2.1
      case rel => exact ⟨j2 + 1, l ++ [y], tok v2.r, by go_num, ⟨K4.out, R4.out⟩, hmo.2.1, by have := HU.out.2.1; have := hmo.2.2; omega, hmo.2.2, by have := HU.out.2.2.2.1; have := hmo.2.2; simp; omega, by rw [List.map_append, List.map_cons, List.map_nil]; exact hmo.1.symm⟩
theorem rread (T : ByteArray) (g cap : Nat) (L : List Tk) (hT : T.size ≤ 1000000) (hL : TL T L) : ∀ n, RDoes T g cap L 63 n (preP n)
  | 0 => fun i t w _ h => by omega
  | n + 1 => by
    have h0 := rread T g cap L hT hL n
    have hg := preP_fine (T := T.data.toList) n
    have h1 := rseq_does T g cap n L (preP n) hT hL hg (preP_tells n) h0
    have h2 := ralt_does T g cap n L (preP n) hT hL hg (preP_tells n) h1
    exact rpre_does T g cap n L hT hL h0 (rprim_does T g cap n L (preP n) hT hL (preP_tells n) h2)
theorem ralt_any (T : ByteArray) (g cap : Nat) (L : List Tk) (hT : T.size ≤ 1000000) (hL : TL T L) (n : Nat) : RDoes T g cap L 17 n (altP (preP n)) :=
  ralt_does T g cap n L (preP n) hT hL (preP_fine (T := T.data.toList) n) (preP_tells n) (rseq_does T g cap n L (preP n) hT hL (preP_fine (T := T.data.toList) n) (preP_tells n) (rread T g cap L hT hL n))
end Go.Proofs.YtbeohmcmphebhaaDoor
