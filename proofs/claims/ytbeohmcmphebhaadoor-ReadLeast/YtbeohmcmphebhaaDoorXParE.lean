import Derived.Test.YtbeohmcmphebhaaDoorXParC
namespace Go.Proofs.YtbeohmcmphebhaaDoor
open Go.RowKit
set_option linter.unusedVariables false
theorem eq_int {c : UInt8} {k : Nat} (h : c = UInt8.ofNat k) (hk : k < 256) : ((c.toNat : Int) == (k : Int)) = true := by
  rw [beq_iff_eq, h]; simp; omega
theorem altL_no {pre : Tk → Rs} {m : Nat} {l : List Ex} {u : Tk} (h : ¬ u.k = 47) : altL pre m l u = .ok (gath 6 l, u) := by
  cases m with
  | zero => rfl
  | succ g => rw [altL, if_neg h]
set_option maxRecDepth 20000 in
set_option maxHeartbeats 4000000 in
theorem alt_does (T : ByteArray) (B n : Nat) (pre : Tk → Rs) (hT : T.size ≤ 1000000) (hg : Goes T.data.toList n pre) (hd : Does T B 26 n (seqP pre)) : Does T B 15 n (altP pre) := by
  intro t w ht hn hB
  have hBl := hB.lt
  have hsl := ht.2.1.length_le
  rw [llen] at hsl
  have hg' := seqP_fine hg
  have h1 := hd t (w.alloc (.cells z7 27)) ht hn (hB.alloc _)
  have hfine := hg' t ht hn
  unfold altP
  have HG : Hid (∀ w1, (w.alloc (.cells z7 27)).grownBy w1 (some B) → w.grownBy w1 (some B)) := fun w1 h => gr_trans (gr_alloc (gr_refl B w) _) h
  cases hp : seqP pre t with
  | error s =>
    rw [hp] at h1
    rw [thn_error]
    unfold PR at h1 ⊢
    simp only at h1 ⊢
    unfold thrown at h1
    rw [z7_eq] at h1
    clear hfine hp hd hg hg' ht
    go_enter Tryd.func15, Tryd.ntmps15
    go_wp2_with (go_at_call 26; refine h1.mono ?_; rintro e w1 ⟨rfl, hg1⟩; rw [← z7_eq] at hg1)
    exact ⟨rfl, rfl, HG.out _ hg1⟩
  | ok x =>
    rw [hp] at h1 hfine
    rw [thn_ok]
    unfold PR at h1
    simp only at h1
    unfold Says at h1
    rw [z7_eq] at h1
    obtain ⟨hx1, hx2, hx3⟩ := hfine
    generalize hR : altL pre x.2.s.length [x.1] x.2 = R
    have HR : Hid (altL pre x.2.s.length [x.1] x.2 = R) := hR
    have HX : Hid (x.2.of T.data.toList ∧ x.2.s.length < t.s.length ∧ t.s.length < n ∧ t.s.length ≤ T.size ∧ Bare x.1 ∧ Goes T.data.toList n (seqP pre) ∧ Does T B 26 n (seqP pre)) := ⟨hx1, hx2, hn, hsl, hx3, hg', hd⟩
    clear hx1 hx2 hx3 hp hn hg hd ht hsl hR hB hg'
    go_enter Tryd.func15, Tryd.ntmps15
    go_wp2_with (go_at_call 26; refine h1.mono ?_; rintro e w1 ⟨⟨y, rfl, hye, hyo⟩, hb1, hg1⟩; rw [← z7_eq] at hg1 hyo; have L0 := Lp.start hBl hg1 hb1 hyo; rw [cells_eq] at L0; clear hg1 hb1 hyo h1)
    go_loopg [3] x.2.s.length (fun g v wr => ∃ (gb cap : Nat) (l : List Ex) (u : Tk), v = .slice (some ⟨gb, 0, none⟩) l.length cap ∧ Hid (Lp T B w wr gb cap l u) ∧ Hid (u.of T.data.toList ∧ u.s.length ≤ g ∧ u.s.length < n ∧ 1 ≤ l.length ∧ l.length + u.s.length ≤ T.size + 1 ∧ altL pre g (l.map Ex.er) u = R ∧ ∀ z ∈ l.map Ex.er, Bare z))
    case atStart =>
      refine ⟨w1.heap.size, 1, [y], x.2, rfl, L0, HX.out.1, Nat.le_refl _, by have := HX.out; omega, by simp, by have := HX.out; simp; omega, ?_, ?_⟩
      · rw [← HR.out, ← hye]; rfl
      · intro z hz; simp at hz; rw [hz, hye]; exact HX.out.2.2.2.2.1
    case round =>
      clear L0 HR hye
      obtain ⟨gb, cap, l, u, rfl, HL, HU⟩ := hrel
      have hcb := HL.out.box.cell
      rw [pcells_eq] at hcb
      have hll : l.length ≤ 2000000 := by have := HU.out; omega
      by_cases hbg : u.k = 47
      · have hu0 : u.k ≠ 0 := by rw [hbg]; decide
        have g47 : ((u.k.toNat : Int) == 47) = true := eq_int hbg (by decide)
        cases gk with
        | zero =>
          exfalso
          have h0 : u.s = [] := List.eq_nil_of_length_eq_zero (by have := HU.out; omega)
          have h2 := (tokS_end u.s).2 h0
          rw [← HU.out.1.1] at h2
          exact hu0 h2
        | succ g =>
          have htk := take_any T B u wr (by omega) HU.out.1 HL.out.box
          have htf := take_fine HU.out.1 hu0
          have hstep : Hid (thn (take u) (fun v => thn (seqP pre v) fun x => altL pre g (l.map Ex.er ++ [x.1]) x.2) = R) := by
            have := HU.out.2.2.2.2.2.1
            rw [altL, if_pos hbg] at this
            exact this
          clear hbg hu0
          cases hv : take u with
          | error s =>
            have hRe : R = .error s := by have := hstep.out; rw [hv, thn_error] at this; exact this.symm
            subst hRe
            rw [hv] at htk
            unfold TakeR at htk
            simp only at htk
            unfold thrown at htk
            clear htf hv hstep
            go_wp2_with (go_at_call 24; refine htk.mono ?_; rintro e w3 ⟨rfl, hg3⟩)
            exact ⟨rfl, rfl, gr_trans HL.out.gr hg3⟩
          | ok v =>
            rw [hv] at htk htf
            simp only at htf
            unfold TakeR at htk
            simp only at htk
            have hst1 : Hid (thn (seqP pre v) (fun x => altL pre g (l.map Ex.er ++ [x.1]) x.2) = R) := by have := hstep.out; rw [hv, thn_ok] at this; exact this
            have hvn : v.s.length < n := by have := HU.out.2.2.1; omega
            have hpre : ∀ W, BoxN W B 60 (pcells T v) → _ := fun W hW => HX.out.2.2.2.2.2.2 v W htf.1 hvn hW
            have hfin := HX.out.2.2.2.2.2.1 v htf.1 hvn
            have HV : Hid (v.of T.data.toList ∧ v.s.length < u.s.length) := htf
            clear hv hstep htf hvn
            cases hp : seqP pre v with
            | error s =>
              have hRe : R = .error s := by have := hst1.out; rw [hp, thn_error] at this; exact this.symm
              subst hRe
              rw [hp] at hpre
              unfold PR at hpre
              simp only at hpre
              unfold thrown at hpre
              clear hfin hp hst1
              go_wp2_with (first
                | (go_at_call 24; refine htk.mono ?_; rintro e w2 ⟨rfl, hb2, hg2⟩; have hb2' : Hid _ := hb2; have hg2' : Hid _ := hg2; clear hb2 hg2 htk)
                | (go_at_call 26; refine (hpre _ hb2'.out).mono ?_; rintro e w3 ⟨rfl, hg3⟩))
              exact ⟨rfl, rfl, gr_trans (gr_trans HL.out.gr hg2'.out) hg3⟩
            | ok z =>
              have hst2 : Hid (altL pre g (l.map Ex.er ++ [z.1]) z.2 = R) := by have := hst1.out; rw [hp, thn_ok] at this; exact this
              rw [hp] at hpre hfin
              unfold PR at hpre
              simp only at hpre
              unfold Says at hpre
              have HF : Hid (Fine T.data.toList v.s.length (.ok z)) := hfin
              clear hfin hp hst1
              go_wp2_with (first
                | (go_at_call 24; refine htk.mono ?_; rintro e w2 ⟨rfl, hb2, hg2⟩; have hb2' : Hid _ := hb2; have L2 : Hid _ := HL.out.call hg2 hb2; clear hb2 hg2 htk)
                | (go_at_call 26; refine (hpre _ hb2'.out).mono ?_; rintro e w3 ⟨⟨y, rfl, hye, hyo⟩, hb3, hg3⟩; have L3 : Hid _ := L2.out.call hg3 hb3; have HYO : Hid _ := hyo; clear hyo hb3 hg3 hpre)
                | (at_builtin; refine wpList_app_ex rfl _ _ rfl L3.out rfl rfl L2.out.gl.2 HYO.out hll ?_; intro g4 cap4 w4 L4))
              go_roundg g
              case measure => omega
              case rel =>
                refine ⟨g4, cap4, l ++ [y], z.2, by simp, L4, HF.out.1, ?_, ?_, by simp, ?_, ?_, ?_⟩
                · have h1 := HF.out.2.1; have h2 := HU.out.2.1; have h3 := HV.out.2; omega
                · have h1 := HF.out.2.1; have h2 := HU.out.2.2.1; have h3 := HV.out.2; omega
                · have h1 := HF.out.2.1; have h2 := HU.out.2.2.2.2.1; have h3 := HV.out.2; simp; omega
                · rw [List.map_append, List.map_cons, List.map_nil, hye]; exact hst2.out
                · intro q hq
                  rw [List.map_append, List.map_cons, List.map_nil, hye] at hq
                  rcases List.mem_append.1 hq with hq | hq
                  · exact HU.out.2.2.2.2.2.2 q hq
                  · rw [List.mem_singleton.1 hq]; exact HF.out.2.2
      · have g47 : ((u.k.toNat : Int) == 47) = false := ne_int hbg (by decide)
        have hRe : R = .ok (gath 6 (l.map Ex.er), u) := by
          have := HU.out.2.2.2.2.2.1
          rw [altL_no hbg] at this; exact this.symm
        subst hRe
        have htg := together_any (w.heap.size + 1) 6 gb cap l wr (by have := HL.out.res.lt; omega) (HL.out.kl hll) HU.out.2.2.2.1
        unfold Says at htg
        clear hbg
        go_wp2_with (first
          | (go_at_call 27; refine htg.mono ?_; rintro e w3 ⟨⟨y, rfl, hye, hyo⟩, hb3⟩; have hb3' : Hid _ := hb3; have HYO : Hid _ := hyo; clear hyo hb3 htg)
          | (refine wpList_store_box rfl 27 _ _ rfl w.heap.size _ rfl rfl z7 (HL.out.res.below hb3'.out HL.out.res.lt) Tryd.info27 rfl (by simp [Value.oneCell']) ?_; intro w5 hx5 hg5; have hc := hx5.cell))
        refine bodyPost_ret (by simp [results, Tryd.results15, go_sem, hc]) rfl ⟨⟨y, rfl, hye, ?_⟩, ?_, ?_⟩
        · exact HYO.out.gr hg5 (fun b hb _ => ⟨fun e => by cases e; omega, by omega⟩)
        · exact (HL.out.box.below hb3'.out HL.out.box.lt).kept hg5 (fun e => by cases e; omega)
        · exact gr_own (gr_below HL.out.gr hb3'.out) hg5 (Nat.le_refl _)
end Go.Proofs.YtbeohmcmphebhaaDoor
namespace Go.Proofs.YtbeohmcmphebhaaDoor
open Go.RowKit
open Ex.Ou (OuL)
set_option linter.unusedVariables false
theorem unl_text (q : UInt8) (g : List UInt8) : ∀ (m : Nat) (rest text : List UInt8) (n : Nat) (x : List UInt8 × Nat), unlF q g m rest text n = some x → x.1.length ≤ text.length + rest.length
  | 0, _, _, _, _, h => by simp [unlF] at h
  | m + 1, [], _, _, _, h => by simp [unlF] at h
  | m + 1, a :: r, text, n, x, h => by
    rw [unlF] at h
    have hs := (signAt_lt g (a :: r)).2
    split at h
    · simp at h; rw [← h]; show text.length ≤ _; omega
    · split at h
      · cases h
      · have := unl_text q g m _ _ _ x h; rw [List.length_drop, List.length_append] at this; simp at this hs ⊢; omega
/-- A leaf has no kids, and no more text than it had bytes. -/
theorem leafAt_t (l : List UInt8) (x : Ex × Nat) (h : leafAt l = some x) : x.1.t.size ≤ l.length ∧ x.1.kids = [] := by
  unfold leafAt at h
  split at h
  · obtain ⟨y, hy, rfl⟩ := Option.map_eq_some_iff.1 h
    show (if y.1 = [] then nd 1 [] else lfT 3 y.1).t.size ≤ _ ∧ (if y.1 = [] then nd 1 [] else lfT 3 y.1).kids = []
    split
    · exact ⟨Nat.zero_le _, rfl⟩
    · refine ⟨?_, rfl⟩
      show (⟨y.1.toArray⟩ : ByteArray).size ≤ _
      rw [mk_size]
      unfold unlit at hy
      cases l with
      | nil => cases hy
      | cons q r =>
        simp only at hy
        split at hy
        · have := unl_text q _ _ _ _ _ y hy; simp at this ⊢; omega
        · cases hy
  · split at h
    · obtain ⟨y, hy, rfl⟩ := Option.map_eq_some_iff.1 h
      exact ⟨Nat.zero_le _, rfl⟩
    · split at h
      · cases h; exact ⟨Nat.zero_le _, rfl⟩
      · split at h
        · cases h
          refine ⟨?_, rfl⟩
          show (⟨(l.takeWhile okc).toArray⟩ : ByteArray).size ≤ _
          rw [mk_size]
          exact (List.takeWhile_prefix _).length_le
        · cases h
theorem tokB_tB (s : List UInt8) : (tokB s).e.t.size ≤ s.length ∧ (tokB s).e.kids = [] := by
  unfold tokB
  split
  · exact ⟨Nat.zero_le _, rfl⟩
  split
  · exact ⟨Nat.zero_le _, rfl⟩
  split
  · exact ⟨Nat.zero_le _, rfl⟩
  split
  · rename_i x hx; exact leafAt_t s x hx
  · exact ⟨Nat.zero_le _, rfl⟩
theorem tokS_t (s : List UInt8) : (tokS s).e.t.size ≤ s.length ∧ (tokS s).e.kids = [] := by unfold tokS; rw [arr_e]; exact tokB_tB s
theorem leaf_ou {P : Nat → Prop} {W : World} (e : Ex) (ht : e.t.size ≤ 140737488355328) (hk : e.kids = []) : e.Ou P W := by
  obtain ⟨k, S, t, a, c, kids⟩ := e
  simp only [Ex.kids] at hk
  subst hk
  rw [Ex.Ou, OuL]
  exact ⟨⟨by simp, ht⟩, trivial⟩
theorem Tk.of.ou {t : Tk} {T : List UInt8} (h : t.of T) (hT : T.length ≤ 1000000) {P : Nat → Prop} {W : World} : t.e.Ou P W := by
  have h1 := tokS_t t.s
  rw [← h.1] at h1
  have := h.2.1.length_le
  exact leaf_ou _ (by omega) h1.2
/-- Where a call stands that has a result to lay. -/
structure Rp (T : ByteArray) (B : Nat) (w wr : World) (t : Tk) : Prop where
  box : BoxN wr B 60 (pcells T t)
  res : BoxN wr w.heap.size 27 z7
  gr : w.grownBy wr (some B)
  lt : B < w.heap.size
theorem Rp.start {T : ByteArray} {B : Nat} {w : World} {t : Tk} (h : BoxN w B 60 (pcells T t)) : Rp T B w (w.alloc (.cells z7 27)) t :=
  ⟨h.alloc _, BoxN.new w 27 z7, gr_alloc (gr_refl B w) _, h.lt⟩
theorem Rp.call {T : ByteArray} {B : Nat} {w wr w1 : World} {t u : Tk} (h : Rp T B w wr t) (hg : wr.grownBy w1 (some B)) (hb : BoxN w1 B 60 (pcells T u)) : Rp T B w w1 u :=
  ⟨hb, h.res.kept hg (fun e => by cases e; have := h.lt; omega), gr_trans h.gr hg, h.lt⟩
theorem Rp.alloc {T : ByteArray} {B : Nat} {w wr : World} {t : Tk} (h : Rp T B w wr t) (o : Obj) : Rp T B w (wr.alloc o) t :=
  ⟨h.box.alloc o, h.res.alloc o, gr_alloc h.gr o, h.lt⟩
theorem Rp.below {T : ByteArray} {B : Nat} {w wr w1 : World} {t : Tk} (h : Rp T B w wr t) (hb : Below wr.heap.size wr w1) : Rp T B w w1 t :=
  ⟨h.box.below hb h.box.lt, h.res.below hb h.res.lt, gr_below h.gr hb, h.lt⟩
theorem Rp.own {T : ByteArray} {B g : Nat} {w wr w1 : World} {t : Tk} (h : Rp T B w wr t) (hg : wr.grownBy w1 (some g)) (hl : w.heap.size < g) : Rp T B w w1 t :=
  ⟨h.box.kept hg (fun e => by cases e; have := h.lt; omega), h.res.kept hg (fun e => by cases e; omega), gr_own h.gr hg (by omega), h.lt⟩
theorem Rp.last {T : ByteArray} {B : Nat} {w wr w5 : World} {t : Tk} (h : Rp T B w wr t) (hg : wr.grownBy w5 (some w.heap.size)) : BoxN w5 B 60 (pcells T t) ∧ w.grownBy w5 (some B) :=
  ⟨h.box.kept hg (fun e => by cases e; have := h.lt; omega), gr_own h.gr hg (Nat.le_refl _)⟩
set_option maxRecDepth 20000 in
set_option maxHeartbeats 4000000 in
theorem prim_leaf (T : ByteArray) (B : Nat) (t : Tk) (w : World) (hT : T.size ≤ 1000000) (ht : t.of T.data.toList) (hB : BoxN w B 60 (pcells T t)) (h1 : t.k = 1) :
    Calls Tryd.prog 73 #[.pointer (some ⟨B, 0, none⟩)] w fun e w' => PR T B w (thn (take t) fun u => .ok (t.e, u)) e w' := by
  have hBl := hB.lt
  have g1 : ((t.k.toNat : Int) == 1) = true := eq_int h1 (by decide)
  have R0 : Hid (Rp T B w (w.alloc (.cells z7 27)) t) := Rp.start hB
  have hcb := R0.out.box.cell
  rw [pcells_eq] at hcb
  have R1 : Hid (Rp T B w ((w.alloc (.cells z7 27)).alloc (.cells t.e.cells 27)) t) := R0.out.alloc _
  have htk := take_any T B t ((w.alloc (.cells z7 27)).alloc (.cells t.e.cells 27)) (by omega) ht R1.out.box
  have HO : Hid (∀ W, t.e.Ou (w.heap.size ≤ ·) W ∧ t.e.er = t.e) := fun W => ⟨ht.ou (by rw [llen]; exact hT), ht.bare⟩
  have bE : Hid (BoxN ((w.alloc (.cells z7 27)).alloc (.cells t.e.cells 27)) (w.heap.size + 1) 27 t.e.cells) := by
    have := BoxN.new (w.alloc (.cells z7 27)) 27 t.e.cells
    rw [show (w.alloc (.cells z7 27)).heap.size = w.heap.size + 1 from by simp] at this
    exact this
  rw [z7_eq] at hcb
  rw [cells_eq, z7_eq] at htk
  clear ht hB h1
  cases hv : take t with
  | error s =>
    rw [hv] at htk
    rw [thn_error]
    unfold TakeR at htk
    simp only at htk
    unfold thrown at htk
    clear hv
    go_enter Tryd.func73, Tryd.ntmps73
    go_wp2_with (go_at_call 24; refine htk.mono ?_; rintro e w3 ⟨rfl, hg3⟩; rw [← cells_eq, ← z7_eq] at hg3)
    exact ⟨rfl, rfl, gr_trans R1.out.gr hg3⟩
  | ok u =>
    rw [hv] at htk
    rw [thn_ok]
    unfold TakeR at htk
    simp only at htk
    clear hv
    go_enter Tryd.func73, Tryd.ntmps73
    go_wp2_with (first
      | (go_at_call 24; refine htk.mono ?_; rintro e w3 ⟨rfl, hb3, hg3⟩; rw [← cells_eq, ← z7_eq] at hg3; have R3 : Hid _ := R1.out.call hg3 hb3; have hce := (bE.out.kept hg3 (fun e => by cases e; omega)).cell; rw [cells_eq] at hce; clear hb3 hg3 htk)
      | (refine wpList_store_box rfl 27 _ _ rfl w.heap.size _ rfl rfl z7 R3.out.res Tryd.info27 rfl (by simp [Value.oneCell']) ?_; intro w5 hx5 hg5; have hc := hx5.cell))
    exact bodyPost_ret (by simp [results, Tryd.results73, go_sem, hc]) rfl ⟨⟨t.e, rfl, (HO.out w5).2, (HO.out w5).1⟩, R3.out.last hg5⟩
end Go.Proofs.YtbeohmcmphebhaaDoor
