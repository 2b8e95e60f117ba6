import Derived.Test.YtbeohmcmphebhaaDoorXRPe
import Derived.Test.YtbeohmcmphebhaaDoorXRPb
namespace Go.Proofs.YtbeohmcmphebhaaDoor
open Go.RowKit
open Ex.Ou (OuL)
set_option linter.unusedVariables false
/-- What is known behind one part of a sequence. -/
structure SeqK (T : ByteArray) (L : List Tk) (n : Nat) (pre : Tk → Rs) (R : Rs) (l : List Ex) (u : Tk) (y : Ex) (v : Tk) (b : Bool) : Prop where
  no : b = false → R = .error v.s
  ends : b = true → begins v.k = false → (v.k = 4 ∧ R = .error v.s) ∨ R = .ok (gath 5 (l ++ [y.er]), v)
  more : b = true → begins v.k = true → R = seqG pre (l ++ [y.er]) v ∧ v.s.length < u.s.length
theorem seqK {T : ByteArray} {L : List Tk} (hL : TL T L) {n : Nat} {pre : Tk → Rs} (hg : Goes T.data.toList n pre) (ht : Tells pre) {j : Nat} {u : Tk} (hu : L[j]? = some u) (hun : u.s.length < n) (l : List Ex) {y : Ex} {v : Tk} {b : Bool} (hm : match pre u with | .ok x => b = true ∧ y.er = x.1 ∧ v = x.2 | .error s => v.s = s ∧ (b = true → v.k = 4)) : SeqK T L n pre (seqG pre l u) l u y v b := by
  unfold seqG
  cases hp : pre u with
  | error s =>
    rw [hp] at hm
    rw [thn_error]
    refine ⟨fun _ => by rw [hm.1], fun h _ => .inl ⟨hm.2 h, by rw [hm.1]⟩, fun h h2 => ?_⟩
    rw [hm.2 h] at h2
    exact absurd h2 (by decide)
  | ok x =>
    rw [hp] at hm
    rw [thn_ok]
    have h4 : u.k ≠ 4 := fun h => by rw [ht u h] at hp; cases hp
    have hf := hg u (hL.of hu h4) hun
    rw [hp] at hf
    obtain ⟨f1, f2, _⟩ := hf
    obtain ⟨m1, m2, m3⟩ := hm
    rw [← m3] at f1 f2
    rw [← m2, ← m3]
    refine ⟨fun h => ?_, fun _ h => .inr (seqL_no h), fun _ h => ⟨seqG_more hg _ v f1 (by omega) h, f2⟩⟩
    rw [m1] at h; cases h
theorem gathered_kq {n g cap tg : Nat} {L : List Tk} {w wr : World} {l : List Ex} {y : Ex} (k : Int) (h : Kq w wr (.slice (some ⟨g, 0, none⟩) (l.length + 1) cap) (l ++ [y])) (hq : Rq n tg L w wr) (hl : l.length ≤ 1900000) :
    Calls Tryd.prog 37 #[.int .i64 k, .slice (some ⟨g, 0, none⟩) (l.length + 1) cap] wr fun e w' => Says (w.heap.size + 1) w' (gath k (l.map Ex.er ++ [y.er])) e ∧ Below wr.heap.size wr w' := by
  have := gathered_any (w.heap.size + 1) k g cap (l ++ [y]) wr (by have := hq.res.lt; omega) (h.kl' (by simp) (by simp; omega)) (by simp)
  rw [show (l ++ [y]).length = l.length + 1 from by simp, List.map_append, List.map_cons, List.map_nil] at this
  exact this
theorem kq_says {w w3 w5 : World} {y : Ex} (h : y.Ou (w.heap.size + 1 ≤ ·) w3) (hg : w3.grownBy w5 (some w.heap.size)) : y.Ou (w.heap.size ≤ ·) w5 :=
  h.gr hg (fun b hb _ => ⟨fun e => by cases e; omega, by omega⟩)
set_option maxRecDepth 20000 in
set_option maxHeartbeats 8000000 in
theorem rseq_does (T : ByteArray) (g cap n : Nat) (L : List Tk) (pre : Tk → Rs) (hT : T.size ≤ 1000000) (hL : TL T L) (hg : Goes T.data.toList n pre) (ht : Tells pre) (hd : RDoes T g cap L 63 n pre) : RDoes T g cap L 36 n (seqP pre) := by
  intro i t w hi hn hw
  rw [← seqG_nil pre t]
  generalize hR : seqG pre [] t = R
  have R0 : Hid (Rq T.size g L w (w.alloc (.cells z7 27))) := Rq.start hw
  have K0 : Hid (Kq w (w.alloc (.cells z7 27)) (.slice none 0 0) []) := Kq.start w _
  have HX : Hid (TL T L ∧ Goes T.data.toList n pre ∧ Tells pre ∧ RDoes T g cap L 63 n pre) := ⟨hL, hg, ht, hd⟩
  have HI : Hid (L[i]? = some t ∧ t.s.length < n ∧ seqG pre [] t = R) := ⟨hi, hn, hR⟩
  have hln := hL.len
  have hix : ∀ (c : UInt8) (W : World), Calls Tryd.prog 35 #[.string ⟨#[110, 40, 38, 126]⟩, .int .u8 (c.toNat : Int)] W fun e w' => e = .returned (.int .i64 (Lib.indexByte [110, 40, 38, 126] c)) ∧ w' = W := fun c W => by
    have := Tryd.strings_IndexByte ⟨#[110, 40, 38, 126]⟩ (c.toNat : Int) W
    simpa using this
  rw [z7_eq] at R0 K0
  clear hi hn hw hL hg ht hd hR
  go_enter Tryd.func36, Tryd.ntmps36
  go_wp2_with fail
  go_loopg [7, 1] (t.s.length + 1) (fun gk v q wr => ∃ (j : Nat) (l : List Ex) (u : Tk), q = .int .i64 j ∧ Hid (Kq w wr v l ∧ Rq T.size g L w wr) ∧ Hid (L[j]? = some u ∧ u.s.length < n ∧ u.s.length < gk ∧ l.length + u.s.length ≤ T.size ∧ seqG pre (l.map Ex.er) u = R))
  case atStart => exact ⟨i, [], t, rfl, ⟨K0.out, R0.out⟩, HI.out.1, HI.out.2.1, Nat.lt_succ_self _, by have := HX.out.1.small HI.out.1; simp; omega, HI.out.2.2⟩
  case round =>
    clear K0 R0 HI
    obtain ⟨j, l, u, rfl, HK, HU⟩ := hrel
    have hjl := get_lt HU.out.1
    have hll : l.length ≤ 2000000 := by have := HU.out.2.2.2.1; omega
    have hpre := HX.out.2.2.2 j u wr HU.out.1 HU.out.2.1 HK.out.2.tw
    have HS : Hid (∀ (y : Ex) (v : Tk) (b : Bool), (match (generalizing := false) pre u with | .ok x => b = true ∧ y.er = x.1 ∧ v = x.2 | .error s => v.s = s ∧ (b = true → v.k = 4)) → SeqK T L n pre R (l.map Ex.er) u y v b) := fun y v b hm => by
      rw [← HU.out.2.2.2.2]
      exact seqK HX.out.1 HX.out.2.1 HX.out.2.2.1 HU.out.1 HU.out.2.1 _ hm
    unfold RdP at hpre
    generalize pre u = A at *
    go_wp2_with (first
      | (go_at_call 63; refine hpre.mono ?_; clear hpre; rintro e w3 ⟨⟨y, j2, v2, b, rfl, hyo, hjv, hm⟩, hb3⟩; have SK : Hid _ := HS.out y v2 b hm; have HV : Hid _ := hjv; have hj2 := get_lt hjv; have K3 : Hid (Kq w (w3.alloc (.cells #[.int .i64 y.k, .int .u64 (wd y.S 0), .int .u64 (wd y.S 1), .int .u64 (wd y.S 2), .int .u64 (wd y.S 3), .string y.t, .slice y.a y.kids.length y.c] 27)) _ l) := (HK.out.1.below hb3).below ((Below.refl _ w3).alloc (Nat.le_refl _) _); have R3 : Hid (Rq T.size g L w (w3.alloc (.cells #[.int .i64 y.k, .int .u64 (wd y.S 0), .int .u64 (wd y.S 1), .int .u64 (wd y.S 2), .int .u64 (wd y.S 3), .string y.t, .slice y.a y.kids.length y.c] 27))) := (HK.out.2.below hb3).alloc _; have bE : Hid (BoxN (w3.alloc (.cells y.cells 27)) w3.heap.size 27 y.cells) := BoxN.new w3 27 y.cells; have ce := bE.out.cell; rw [cells_eq] at ce bE; have HYO : Hid (y.Ou (wr.heap.size ≤ ·) (w3.alloc (.cells #[.int .i64 y.k, .int .u64 (wd y.S 0), .int .u64 (wd y.S 1), .int .u64 (wd y.S 2), .int .u64 (wd y.S 3), .string y.t, .slice y.a y.kids.length y.c] 27))) := hyo.gr (World.grownBy_alloc w3 _ none) (fun b hb _ => ⟨by simp, hb⟩); obtain ⟨q, HQ, hx⟩ : ∃ q : Int, Hid (q = Lib.indexByte [110, 40, 38, 126] (rk v2.k)) ∧ ∀ W, Calls Tryd.prog 35 #[.string ⟨#[110, 40, 38, 126]⟩, .int .u8 ((rk v2.k).toNat : Int)] W fun e w' => e = .returned (.int .i64 q) ∧ w' = W := ⟨_, rfl, fun W => hix (rk v2.k) W⟩; have HE : Hid (w.heap.size + 1 ≤ wr.heap.size) := HK.out.2.res.lt; clear hyo hm hjv hb3 HS)
      | (at_builtin; refine wpList_app_kq rfl _ _ rfl K3.out R3.out rfl (H := w3.heap.size + 1) (by simp) rfl (fun k hk => (HK.out.1.blk k hk).2) HE.out HYO.out hll ?_; intro g4 cap4 w4 k4 r4; have K4 : Hid _ := k4; have R4 : Hid _ := r4; have c4 := R4.out.tw.kind HV.out; clear k4 r4 ce)
      | (go_at_call 35; refine (hx _).mono ?_; rintro e w5 ⟨rfl, rfl⟩)
      | (go_at_call 37; refine (gathered_kq 5 K4.out R4.out (by have := HU.out.2.2.2.1; omega)).mono ?_; rintro e w6 ⟨⟨z, rfl, hze, hzo⟩, hb6⟩; have R6 : Hid _ := R4.out.below hb6; have HZO : Hid _ := hzo; clear hzo hb6)
      | (refine wpList_store_box rfl 27 _ _ rfl w.heap.size _ rfl rfl z7 R6.out.res Tryd.info27 rfl (by simp [Value.oneCell']) ?_; intro w7 hx7 hg7; have hc := hx7.cell)
      | (refine wpList_store_box rfl 27 _ _ rfl w.heap.size _ rfl rfl z7 R3.out.res Tryd.info27 rfl (by simp [Value.oneCell']) ?_; intro w7 hx7 hg7; have hc := hx7.cell))
    · have hb : b = false := by have h := ‹(!b) = true›; simpa using h
      have hy7 : y.Ou (w.heap.size ≤ ·) w7 := HYO.out.gr hg7 (fun b hb _ => ⟨fun e => by cases e; have := HE.out; omega, by have := HE.out; omega⟩)
      exact bodyPost_ret (by simp [results, Tryd.results36, go_sem, hc]) rfl ⟨⟨y, j2, v2, false, rfl, hy7, HV.out, by rw [SK.out.no hb]; exact ⟨rfl, fun h => by cases h⟩⟩, R3.out.last hg7⟩
    · have hb : b = true := by have h := ‹(!b) = false›; simpa using h
      have hq := ‹q < 0›
      have hbg : begins v2.k = false := by rw [← (rk_fin v2.k (HX.out.1.kd HV.out)).1, ← HQ.out]; exact decide_eq_false (by omega)
      refine bodyPost_ret (by simp [results, Tryd.results36, go_sem, hc]) rfl ⟨⟨z, j2, v2, true, rfl, kq_says HZO.out hg7, HV.out, ?_⟩, R6.out.last hg7⟩
      rcases SK.out.ends hb hbg with ⟨h4, h⟩ | h
      · rw [h]; exact ⟨rfl, fun _ => h4⟩
      · rw [h]; exact ⟨rfl, hze, rfl⟩
    · have hb : b = true := by have h := ‹(!b) = false›; simpa using h
      have hq := ‹0 ≤ q›
      have hbg : begins v2.k = true := by rw [← (rk_fin v2.k (HX.out.1.kd HV.out)).1, ← HQ.out]; exact decide_eq_true hq
      have hmo := SK.out.more hb hbg
      go_roundg u.s.length
      case measure => exact HU.out.2.2.1
      case rel => exact ⟨j2, l ++ [y], v2, rfl, ⟨K4.out, R4.out⟩, HV.out, by have := HU.out.2.1; omega, hmo.2, by have := HU.out.2.2.2.1; simp; omega, by rw [List.map_append, List.map_cons, List.map_nil]; exact hmo.1.symm⟩
end Go.Proofs.YtbeohmcmphebhaaDoor
namespace Go.Proofs.YtbeohmcmphebhaaDoor
open Go.RowKit
open Ex.Ou (OuL)
set_option linter.unusedVariables false
theorem BoxN.new' {W : World} {K : Nat} {t : TypeId} {cs : Array Value} (h : W.heap.size = K) : BoxN (W.alloc (.cells cs t)) K t cs := by rw [← h]; exact BoxN.new W t cs
theorem one_ou {P : Nat → Prop} {W : World} {K : Nat} {y : Ex} (k : Int) (hb : BoxN W K 27 y.cells) (hP : P K) (hy : y.Ou P W) : (Ex.mk k 0#256 ⟨#[]⟩ (some ⟨K, 0, none⟩) 1 [y]).Ou P W := by
  rw [Ex.Ou]
  refine ⟨⟨by simp, by decide⟩, ouL_of _ 0 fun j x hx => ?_⟩
  have hj : j = 0 := by
    have := (List.getElem?_eq_some_iff.1 hx).1
    simp at this; exact this
  subst hj
  simp at hx
  subst hx
  refine ⟨⟨_, _, rfl, hP, fun m hm => ?_⟩, hy⟩
  have := hb.cell m
  simpa using this
theorem rp_wrap {L : List Tk} {N K : Nat} {W : World} {A : Rs} {kk : Int} {y : Ex} {j : Nat} {v : Tk} {b : Bool} (hj : L[j]? = some v) (hm : match A with | .ok x => b = true ∧ y.er = x.1 ∧ v = x.2 | .error s => v.s = s ∧ (b = true → v.k = 4)) (hK : N ≤ K) (hb : BoxN W K 27 y.cells) (hy : y.Ou (N ≤ ·) W) :
    RdP L N W (thn A fun x => .ok (nd kk [x.1], x.2)) (.returned (.tuple #[.agg #[.int .i64 kk, .int .u64 0, .int .u64 0, .int .u64 0, .int .u64 0, .string ⟨#[]⟩, .slice (some ⟨K, 0, none⟩) 1 1], .int .i64 j, .bool b])) := by
  refine ⟨.mk kk 0#256 ⟨#[]⟩ (some ⟨K, 0, none⟩) 1 [y], j, v, b, by simp [Ex.k, Ex.S, Ex.t, Ex.a, Ex.c, Ex.kids, wd_zero], one_ou kk hb hK hy, hj, ?_⟩
  cases A with
  | error s => rw [thn_error]; exact hm
  | ok x =>
    rw [thn_ok]
    refine ⟨hm.1, ?_, hm.2.2⟩
    rw [er_eq]
    simp only [Ex.k, Ex.S, Ex.t, Ex.kids, List.map_cons, List.map_nil]
    rw [hm.2.1]; rfl
--GEN--
set_option maxRecDepth 20000 in
set_option maxHeartbeats 4000000 in
theorem rpre_and (T : ByteArray) (g cap n : Nat) (L : List Tk) (hT : T.size ≤ 1000000) (hL : TL T L) (hd : RDoes T g cap L 63 n (preP n)) (i : Nat) (t : Tk) (w : World) (hi : L[i]? = some t) (hn : t.s.length < n + 1) (hw : TW T.size g L w) (hk : t.k = 38) :
    Calls Tryd.prog 63 #[.slice (some ⟨g, 0, none⟩) L.length cap, .int .i64 i] w fun e w' => RdP L w.heap.size w' (thn (take t) fun u => thn (preP n u) fun x => .ok (nd 10 [x.1], x.2)) e ∧ Below w.heap.size w w' := by
  have h0 : t.k ≠ 0 := by rw [hk]; decide
  obtain ⟨hj, hlt⟩ := hL.next hi h0 (by rw [hk]; decide)
  have g1 : (((rk t.k).toNat : Int) == 38) = true := eq_int (by rw [hk]; rfl) (by decide)
  have g2 : (((rk t.k).toNat : Int) == 126) = false := rk_ne (by decide) (by rw [hk]; decide)
  rw [thn_take t _ (fun h4 => by rw [preP_tells n _ h4, thn_error])]
  generalize hU : tok t.r = u at *
  have R0 : Hid (Rq T.size g L w (w.alloc (.cells z7 27))) := Rq.start hw
  have hal := hd (i + 1) u (w.alloc (.cells z7 27)) hj (by omega) R0.out.tw
  have hil := get_lt hi
  have hjl := get_lt hj
  have hln := hL.len
  have c0 := R0.out.tw.kind hi
  generalize preP n u = A at *
  unfold RdP at hal
  rw [z7_eq] at c0 hal
  rw [show ((i + 1 : Nat) : Int) = (i : Int) + 1 from by omega] at hal
  have HI : Hid (L[i]? = some t) := hi
  clear hi hj hw hk hU h0 hlt hd hL
  go_enter Tryd.func63, Tryd.ntmps63
  go_wp2_with (first
    | (go_at_call 63; refine hal.mono ?_; clear hal; rintro e w3 ⟨⟨y, j, v, b, rfl, hyo, hjv, hm⟩, hb3⟩; rw [← z7_eq] at hyo hb3; have HYO : Hid _ := hyo; have HM : Hid _ := hm; have HV : Hid _ := hjv; have R3 : Hid (Rq T.size g L w (w3.alloc (.cells #[.int .i64 y.k, .int .u64 (wd y.S 0), .int .u64 (wd y.S 1), .int .u64 (wd y.S 2), .int .u64 (wd y.S 3), .string y.t, .slice y.a y.kids.length y.c] 27))) := (R0.out.below hb3).alloc _; have bE : Hid (BoxN (w3.alloc (.cells y.cells 27)) w3.heap.size 27 y.cells) := BoxN.new w3 27 y.cells; have ce := bE.out.cell; rw [cells_eq] at ce bE; have HE : Hid (w.heap.size < w3.heap.size) := (R0.out.below hb3).res.lt; have c3 := R3.out.tw.kind HI.out; have R4 : Hid (Rq T.size g L w ((w3.alloc (.cells #[.int .i64 y.k, .int .u64 (wd y.S 0), .int .u64 (wd y.S 1), .int .u64 (wd y.S 2), .int .u64 (wd y.S 3), .string y.t, .slice y.a y.kids.length y.c] 27)).alloc (.cells #[.int .i64 y.k, .int .u64 (wd y.S 0), .int .u64 (wd y.S 1), .int .u64 (wd y.S 2), .int .u64 (wd y.S 3), .string y.t, .slice y.a y.kids.length y.c] 27))) := R3.out.alloc _; have bK : Hid (BoxN ((w3.alloc (.cells #[.int .i64 y.k, .int .u64 (wd y.S 0), .int .u64 (wd y.S 1), .int .u64 (wd y.S 2), .int .u64 (wd y.S 3), .string y.t, .slice y.a y.kids.length y.c] 27)).alloc (.cells y.cells 27)) (w3.heap.size + 1) 27 y.cells) := BoxN.new' (by simp) ; clear hyo hm hjv hb3)
    | (refine wpList_store_box rfl 27 _ _ rfl w.heap.size _ rfl rfl z7 R4.out.res Tryd.info27 rfl (by simp [Value.oneCell']) ?_; intro w5 hx5 hg5; have hc := hx5.cell))
  all_goals
    have hy5 := call_ou HYO.out (grown_alloc _ hg5)
    have bK5 := bK.out.kept hg5 (fun e => by have h1 := HE.out; simp at e; omega)
    exact bodyPost_ret (by simp [results, Tryd.results63, go_sem, hc]) rfl ⟨rp_wrap HV.out HM.out (by have := HE.out; omega) bK5 hy5, R4.out.last hg5⟩
set_option maxRecDepth 20000 in
set_option maxHeartbeats 4000000 in
theorem rpre_not (T : ByteArray) (g cap n : Nat) (L : List Tk) (hT : T.size ≤ 1000000) (hL : TL T L) (hd : RDoes T g cap L 63 n (preP n)) (i : Nat) (t : Tk) (w : World) (hi : L[i]? = some t) (hn : t.s.length < n + 1) (hw : TW T.size g L w) (hk : t.k = 33) :
    Calls Tryd.prog 63 #[.slice (some ⟨g, 0, none⟩) L.length cap, .int .i64 i] w fun e w' => RdP L w.heap.size w' (thn (take t) fun u => thn (preP n u) fun x => .ok (nd 11 [x.1], x.2)) e ∧ Below w.heap.size w w' := by
  have h0 : t.k ≠ 0 := by rw [hk]; decide
  obtain ⟨hj, hlt⟩ := hL.next hi h0 (by rw [hk]; decide)
  have g1 : (((rk t.k).toNat : Int) == 38) = false := rk_ne (by decide) (by rw [hk]; decide)
  have g2 : (((rk t.k).toNat : Int) == 126) = true := eq_int (by rw [hk]; rfl) (by decide)
  rw [thn_take t _ (fun h4 => by rw [preP_tells n _ h4, thn_error])]
  generalize hU : tok t.r = u at *
  have R0 : Hid (Rq T.size g L w (w.alloc (.cells z7 27))) := Rq.start hw
  have hal := hd (i + 1) u (w.alloc (.cells z7 27)) hj (by omega) R0.out.tw
  have hil := get_lt hi
  have hjl := get_lt hj
  have hln := hL.len
  have c0 := R0.out.tw.kind hi
  generalize preP n u = A at *
  unfold RdP at hal
  rw [z7_eq] at c0 hal
  rw [show ((i + 1 : Nat) : Int) = (i : Int) + 1 from by omega] at hal
  have HI : Hid (L[i]? = some t) := hi
  clear hi hj hw hk hU h0 hlt hd hL
  go_enter Tryd.func63, Tryd.ntmps63
  go_wp2_with (first
    | (go_at_call 63; refine hal.mono ?_; clear hal; rintro e w3 ⟨⟨y, j, v, b, rfl, hyo, hjv, hm⟩, hb3⟩; rw [← z7_eq] at hyo hb3; have HYO : Hid _ := hyo; have HM : Hid _ := hm; have HV : Hid _ := hjv; have R3 : Hid (Rq T.size g L w (w3.alloc (.cells #[.int .i64 y.k, .int .u64 (wd y.S 0), .int .u64 (wd y.S 1), .int .u64 (wd y.S 2), .int .u64 (wd y.S 3), .string y.t, .slice y.a y.kids.length y.c] 27))) := (R0.out.below hb3).alloc _; have bE : Hid (BoxN (w3.alloc (.cells y.cells 27)) w3.heap.size 27 y.cells) := BoxN.new w3 27 y.cells; have ce := bE.out.cell; rw [cells_eq] at ce bE; have HE : Hid (w.heap.size < w3.heap.size) := (R0.out.below hb3).res.lt; have c3 := R3.out.tw.kind HI.out; have R4 : Hid (Rq T.size g L w ((w3.alloc (.cells #[.int .i64 y.k, .int .u64 (wd y.S 0), .int .u64 (wd y.S 1), .int .u64 (wd y.S 2), .int .u64 (wd y.S 3), .string y.t, .slice y.a y.kids.length y.c] 27)).alloc (.cells #[.int .i64 y.k, .int .u64 (wd y.S 0), .int .u64 (wd y.S 1), .int .u64 (wd y.S 2), .int .u64 (wd y.S 3), .string y.t, .slice y.a y.kids.length y.c] 27))) := R3.out.alloc _; have bK : Hid (BoxN ((w3.alloc (.cells #[.int .i64 y.k, .int .u64 (wd y.S 0), .int .u64 (wd y.S 1), .int .u64 (wd y.S 2), .int .u64 (wd y.S 3), .string y.t, .slice y.a y.kids.length y.c] 27)).alloc (.cells y.cells 27)) (w3.heap.size + 1) 27 y.cells) := BoxN.new' (by simp) ; clear hyo hm hjv hb3)
    | (refine wpList_store_box rfl 27 _ _ rfl w.heap.size _ rfl rfl z7 R4.out.res Tryd.info27 rfl (by simp [Value.oneCell']) ?_; intro w5 hx5 hg5; have hc := hx5.cell))
  all_goals
    have hy5 := call_ou HYO.out (grown_alloc _ hg5)
    have bK5 := bK.out.kept hg5 (fun e => by have h1 := HE.out; simp at e; omega)
    exact bodyPost_ret (by simp [results, Tryd.results63, go_sem, hc]) rfl ⟨rp_wrap HV.out HM.out (by have := HE.out; omega) bK5 hy5, R4.out.last hg5⟩
end Go.Proofs.YtbeohmcmphebhaaDoor
