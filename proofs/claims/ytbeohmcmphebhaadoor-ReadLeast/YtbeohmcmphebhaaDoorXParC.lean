import Derived.Test.YtbeohmcmphebhaaDoorXParA
import Derived.Deep.LoopGhost
import Derived.Deep.AppendLies
namespace Go.Proofs.YtbeohmcmphebhaaDoor
open Go.RowKit
set_option linter.unusedVariables false
/-- What reading does. -/
def PR (T : ByteArray) (B : Nat) (w : World) (R : Rs) (e : Ending) (w' : World) : Prop :=
  match R with
  | .ok x => Says w.heap.size w' x.1 e ∧ BoxN w' B 60 (pcells T x.2) ∧ w.grownBy w' (some B)
  | .error s => e = thrown T.size s ∧ w.grownBy w' (some B)
def Does (T : ByteArray) (B f n : Nat) (fn : Tk → Rs) : Prop := ∀ (t : Tk) (w : World), t.of T.data.toList → t.s.length < n → BoxN w B 60 (pcells T t) →
  Calls Tryd.prog f #[.pointer (some ⟨B, 0, none⟩)] w fun e w' => PR T B w (fn t) e w'
def kcells (l : List Ex) : List Value := l.flatMap fun x => x.cells.toList
theorem kcells_len : ∀ l : List Ex, (kcells l).length = l.length * 7
  | [] => rfl
  | x :: r => by rw [show kcells (x :: r) = x.cells.toList ++ kcells r from rfl, List.length_append, kcells_len r, List.length_cons]; show 7 + _ = _; omega
theorem kcells_at : ∀ (l : List Ex) (i j : Nat) (x : Ex), l[i]? = some x → j < 7 → (kcells l)[i * 7 + j]? = x.cells[j]?
  | [], i, j, x, h, _ => by simp at h
  | y :: r, 0, j, x, h, hj => by
    simp at h; subst h
    rw [show kcells (y :: r) = y.cells.toList ++ kcells r from rfl, Nat.zero_mul, Nat.zero_add, List.getElem?_append_left (by show j < 7; exact hj), Array.getElem?_toList]
  | y :: r, i + 1, j, x, h, hj => by
    rw [show kcells (y :: r) = y.cells.toList ++ kcells r from rfl, List.getElem?_append_right (by show 7 ≤ _; omega), show (i + 1) * 7 + j - y.cells.toList.length = i * 7 + j from by show _ - 7 = _; omega]
    exact kcells_at r i j x (by simpa using h) hj
theorem kcells_app (l : List Ex) (x : Ex) : kcells (l ++ [x]) = kcells l ++ x.cells.toList := by simp [kcells]
theorem ex_one (x : Ex) : ∀ u ∈ x.cells.toList, u.oneCell' = true := by
  intro u hu
  simp [Ex.cells] at hu
  rcases hu with rfl | rfl | rfl | rfl | rfl | rfl | rfl <;> rfl
/-- Where a loop over kids stands. -/
structure Lp (T : ByteArray) (B : Nat) (w wr : World) (g cap : Nat) (l : List Ex) (t : Tk) : Prop where
  own : wr.ownsRow (w.heap.size + 1) 27 7 (.slice (some ⟨g, 0, none⟩) l.length cap) l.length (kcells l)
  ou : ∀ x ∈ l, x.Ou (fun b => w.heap.size + 1 ≤ b ∧ b ≠ g) wr
  box : BoxN wr B 60 (pcells T t)
  res : BoxN wr w.heap.size 27 z7
  gr : w.grownBy wr (some B)
  lt : B < w.heap.size
  gl : w.heap.size + 1 ≤ g ∧ g < wr.heap.size
theorem own_gr {w w' : World} {base g n cap : Nat} {xs : List Value} {row : Option Nat} (h : w.ownsRow base 27 7 (.slice (some ⟨g, 0, none⟩) n cap) n xs) (hg : w.grownBy w' row) (hr : some g ≠ row) : w'.ownsRow base 27 7 (.slice (some ⟨g, 0, none⟩) n cap) n xs := by
  obtain ⟨h1, h2⟩ := h
  refine ⟨h1, ?_⟩
  rcases h2 with ⟨h2, _⟩ | ⟨g', cap', cur, hv, hb, hh, r⟩
  · cases h2
  · refine Or.inr ⟨g', cap', cur, hv, hb, ?_, r⟩
    have e : g = g' := by cases hv; rfl
    subst e
    have hlt : g < w.heap.size := (Array.getElem?_eq_some_iff.1 hh).1
    rw [hg.block g hlt hr]; exact hh
theorem Lp.call {T : ByteArray} {B : Nat} {w wr w1 : World} {g cap : Nat} {l : List Ex} {t u : Tk} (h : Lp T B w wr g cap l t) (hg : wr.grownBy w1 (some B)) (hb : BoxN w1 B 60 (pcells T u)) : Lp T B w w1 g cap l u where
  own := own_gr h.own hg (fun e => by cases e; have := h.gl; have := h.lt; omega)
  ou := fun x hx => (h.ou x hx).gr hg (fun b hb _ => ⟨fun e => by cases e; have := h.lt; omega, hb⟩)
  box := hb
  res := h.res.kept hg (fun e => by cases e; have := h.lt; omega)
  gr := gr_trans h.gr hg
  lt := h.lt
  gl := ⟨h.gl.1, Nat.lt_of_lt_of_le h.gl.2 hg.size⟩
theorem Lp.push {T : ByteArray} {B : Nat} {w w1 w3 : World} {g cap g3 cap3 N : Nat} {l : List Ex} {y : Ex} {t : Tk} (h : Lp T B w w1 g cap l t) (hN : g < N) (hy : y.Ou (N ≤ ·) w1)
    (hown : w3.ownsRow (w.heap.size + 1) 27 7 (.slice (some ⟨g3, 0, none⟩) (l.length + 1) cap3) (l.length + 1) (kcells l ++ y.cells.toList)) (hg : (w1.alloc (.cells y.cells 27)).grownBy w3 (some g)) (h3 : g3 = g ∨ g3 = w1.heap.size + 1) :
    Lp T B w w3 g3 cap3 (l ++ [y]) t := by
  have hgl := h.gl
  have hlt := h.lt
  have hg0 : w1.grownBy w3 (some g) := grown_alloc _ hg
  have hsz := hg.size
  simp at hsz
  refine ⟨by rw [kcells_app]; simpa using hown, fun x hx => ?_, h.box.kept hg0 (fun e => by cases e; omega), h.res.kept hg0 (fun e => by cases e; omega), ?_, hlt, ?_⟩
  · rcases List.mem_append.1 hx with hx | hx
    · refine (h.ou x hx).gr hg0 (fun b hb hlt => ⟨fun e => by cases e; exact hb.2 rfl, hb.1, ?_⟩)
      rcases h3 with rfl | rfl
      · exact hb.2
      · omega
    · rw [List.mem_singleton.1 hx]
      refine hy.gr hg0 (fun b hb hlt => ⟨fun e => by cases e; omega, by omega, ?_⟩)
      rcases h3 with rfl | rfl
      · omega
      · omega
  · exact gr_own h.gr hg0 (by omega)
  · obtain ⟨g', cap', hv, hb, hgl'⟩ := World.ownsRow.form hown (by omega)
    cases hv
    exact ⟨hb, hgl'⟩
theorem Lp.kl {T : ByteArray} {B : Nat} {w wr : World} {g cap : Nat} {l : List Ex} {t : Tk} (h : Lp T B w wr g cap l t) (hl : l.length ≤ 2000000) : KL (w.heap.size + 1) wr g cap l := by
  refine ⟨by have := h.gl; omega, hl, fun j x hx => ⟨fun m hm => ?_, (h.ou x (List.mem_of_getElem? hx)).gr (gr_refl 0 wr) (fun b hb _ => ⟨?_, hb.1⟩)⟩⟩
  · obtain ⟨v, hv⟩ := cells7 x m hm
    have h1 := kcells_at l j m x hx hm
    rw [hv] at h1 ⊢
    have := World.ownsRow.cells h.own (g := g) rfl _ _ h1
    rwa [Addr.add_lit, Nat.zero_add] at this
  · have := h.gl; have := h.lt
    intro e; cases e; omega
theorem Lp.start {T : ByteArray} {B : Nat} {w w1 : World} {y : Ex} {t : Tk} (hB : B < w.heap.size) (hg : (w.alloc (.cells z7 27)).grownBy w1 (some B)) (hb : BoxN w1 B 60 (pcells T t)) (hy : y.Ou ((w.alloc (.cells z7 27)).heap.size ≤ ·) w1) :
    Lp T B w (w1.alloc (.cells y.cells 27)) w1.heap.size 1 [y] t := by
  have hsz := hg.size
  simp at hsz
  have hx := (BoxN.new w 27 z7).kept hg (fun e => by cases e; omega)
  refine ⟨?_, fun x hx => ?_, hb.alloc _, hx.alloc _, ?_, hB, by omega, by simp⟩
  · have := World.ownsRow_lit (base := w.heap.size + 1) (e := 27) (size := 7) w1 y.cells 1 (by omega) (by unfold maxLen; omega) rfl
    simpa [kcells] using this
  · rw [List.mem_singleton.1 hx]
    refine hy.gr (World.grownBy_alloc w1 (.cells y.cells 27) none) (fun b hb hlt => ⟨by simp, ?_, by omega⟩)
    simp at hb; omega
  · exact gr_alloc (gr_trans (gr_alloc (gr_refl B w) _) hg) _
theorem Tryd.infoX : (Tryd.prog.info? 27).map (fun i => (i.zero, i.size, i.bytes)) = some (some (.agg z7), 7, 80) := by kernel_rfl
end Go.Proofs.YtbeohmcmphebhaaDoor
namespace Go.Proofs.YtbeohmcmphebhaaDoor
open Go.RowKit
set_option linter.unusedVariables false
theorem wpList_app_ex {ops : Array Oper} {rest : List Oper} {o : Oper} {a : Act} {Q : Exit → Act → World → Prop} (hgd : o.guard = none) (s x : Operand)
    (ho : o.op = .call { callee := .builtin .append, args := #[s, x], argTypes := #[25, 25] }) {T : ByteArray} {B : Nat} {w w1 : World} {g cap N : Nat} {l : List Ex} {t : Tk} {y : Ex} (h : Lp T B w w1 g cap l t)
    (hs : a.eval s = .slice (some ⟨g, 0, none⟩) l.length cap) (hx : a.eval x = .slice (some ⟨w1.heap.size, 0, none⟩) 1 1) (hN : g < N) (hy : y.Ou (N ≤ ·) w1) (hl : l.length ≤ 2000000)
    (hK : ∀ g3 cap3 w3, Lp T B w w3 g3 cap3 (l ++ [y]) t → wpList Tryd.prog ops Q rest (a.put o.dst (.slice (some ⟨g3, 0, none⟩) (l.length + 1) cap3)) w3) :
    wpList Tryd.prog ops Q (o :: rest) a (w1.alloc (.cells #[.int .i64 y.k, .int .u64 (wd y.S 0), .int .u64 (wd y.S 1), .int .u64 (wd y.S 2), .int .u64 (wd y.S 3), .string y.t, .slice y.a y.kids.length y.c] 27)) := by
  obtain ⟨i0, hi, hz0, hz1, hz2⟩ := info_parts Tryd.infoX
  have hgl := h.gl
  have h1 := own_gr h.own (World.grownBy_alloc w1 (.cells y.cells 27) none) (by simp)
  have hnews := World.news_of_block (World.alloc_heap_new w1 (.cells y.cells 27))
  refine wpList_append_lies _ hgd s x 25 ho (w.heap.size + 1) 27 i0 (.agg z7) 7 80 Tryd.underlying25 hi hz0 hz1 hz2 rfl (by decide) _ l.length (kcells l) hs h1 ⟨w1.heap.size, 0, none⟩ 1 1 y.cells.toList hx rfl hnews (ex_one y) (by omega) (by unfold maxLen; omega) (by omega) (by simp; omega) (w1.heap.size + 1) (by simp) ?_
  intro g3 cap3 w3 hown hgr hor _
  refine hK g3 cap3 w3 (h.push hN hy hown hgr ?_)
  rcases hor with e | e
  · left; cases e; rfl
  · exact .inr e
set_option maxRecDepth 20000 in
set_option maxHeartbeats 4000000 in
theorem seq_does (T : ByteArray) (B n : Nat) (pre : Tk → Rs) (hT : T.size ≤ 1000000) (hg : Goes T.data.toList n pre) (hd : Does T B 52 n pre) : Does T B 26 n (seqP pre) := by
  intro t w ht hn hB
  have hBl := hB.lt
  have hsl := ht.2.1.length_le
  rw [llen] at hsl
  have h1 := hd t (w.alloc (.cells z7 27)) ht hn (hB.alloc _)
  have hfine := hg t ht hn
  unfold seqP
  have HG : Hid (∀ w1, (w.alloc (.cells z7 27)).grownBy w1 (some B) → w.grownBy w1 (some B)) := fun w1 h => gr_trans (gr_alloc (gr_refl B w) _) h
  cases hp : pre t with
  | error s =>
    rw [hp] at h1
    rw [thn_error]
    unfold PR at h1 ⊢
    simp only at h1 ⊢
    unfold thrown at h1
    rw [z7_eq] at h1
    clear hfine hp hd hg ht
    go_enter Tryd.func26, Tryd.ntmps26
    go_wp2_with (go_at_call 52; refine h1.mono ?_; rintro e w1 ⟨rfl, hg1⟩; rw [← z7_eq] at hg1)
    exact ⟨rfl, rfl, HG.out _ hg1⟩
  | ok x =>
    rw [hp] at h1 hfine
    rw [thn_ok]
    unfold PR at h1
    simp only at h1
    unfold Says at h1
    rw [z7_eq] at h1
    obtain ⟨hx1, hx2, hx3⟩ := hfine
    generalize hR : seqL pre x.2.s.length [x.1] x.2 = R
    have HR : Hid (seqL pre x.2.s.length [x.1] x.2 = R) := hR
    have HX : Hid (x.2.of T.data.toList ∧ x.2.s.length < t.s.length ∧ t.s.length < n ∧ t.s.length ≤ T.size ∧ Bare x.1 ∧ Goes T.data.toList n pre ∧ Does T B 52 n pre) := ⟨hx1, hx2, hn, hsl, hx3, hg, hd⟩
    clear hx1 hx2 hx3 hp hn hg hd ht hsl hR hB
    go_enter Tryd.func26, Tryd.ntmps26
    go_wp2_with (go_at_call 52; refine h1.mono ?_; rintro e w1 ⟨⟨y, rfl, hye, hyo⟩, hb1, hg1⟩; rw [← z7_eq] at hg1 hyo; have L0 := Lp.start hBl hg1 hb1 hyo; rw [cells_eq] at L0; clear hg1 hb1 hyo h1)
    go_loopg [3] x.2.s.length (fun g v wr => ∃ (gb cap : Nat) (l : List Ex) (u : Tk), v = .slice (some ⟨gb, 0, none⟩) l.length cap ∧ Hid (Lp T B w wr gb cap l u) ∧ Hid (u.of T.data.toList ∧ u.s.length ≤ g ∧ u.s.length < n ∧ 1 ≤ l.length ∧ l.length + u.s.length ≤ T.size + 1 ∧ seqL pre g (l.map Ex.er) u = R ∧ ∀ z ∈ l.map Ex.er, Bare z))
    case atStart =>
      refine ⟨w1.heap.size, 1, [y], x.2, rfl, L0, HX.out.1, Nat.le_refl _, by have := HX.out; omega, by simp, by have := HX.out; simp; omega, ?_, ?_⟩
      · rw [← HR.out, ← hye]; rfl
      · intro z hz; simp at hz; rw [hz, hye]; exact HX.out.2.2.2.2.1
    case round =>
      clear L0 HR hye
      obtain ⟨gb, cap, l, u, rfl, HL, HU⟩ := hrel
      have hcb := HL.out.box.cell
      rw [pcells_eq] at hcb
      have hbc : ∀ W, _ := fun W => begins_any u.k W
      have hll : l.length ≤ 2000000 := by have := HU.out; omega
      cases hbg : begins u.k with
      | true =>
        rw [hbg] at hbc
        have hu0 := begins_ne hbg
        cases gk with
        | zero =>
          exfalso
          have h0 : u.s = [] := List.eq_nil_of_length_eq_zero (by have := HU.out; omega)
          have h2 := (tokS_end u.s).2 h0
          rw [← HU.out.1.1] at h2
          exact hu0 h2
        | succ g =>
          have hpre := HX.out.2.2.2.2.2.2 u wr HU.out.1 HU.out.2.2.1 HL.out.box
          have hfin := HX.out.2.2.2.2.2.1 u HU.out.1 HU.out.2.2.1
          have hstep : Hid (thn (pre u) (fun x => seqL pre g (l.map Ex.er ++ [x.1]) x.2) = R) := by
            have := HU.out.2.2.2.2.2.1
            rw [seqL, if_pos hbg] at this
            exact this
          clear hbg hu0
          cases hp : pre u with
          | error s =>
            have hRe : R = .error s := by have := hstep.out; rw [hp, thn_error] at this; exact this.symm
            subst hRe
            rw [hp] at hpre
            unfold PR at hpre
            simp only at hpre
            unfold thrown at hpre
            clear hfin hp hstep
            go_wp2_with (first
              | (go_at_call 53; refine (hbc _).mono ?_; rintro e w2 ⟨rfl, rfl⟩)
              | (go_at_call 52; refine hpre.mono ?_; rintro e w3 ⟨rfl, hg3⟩))
            exact ⟨rfl, rfl, gr_trans HL.out.gr hg3⟩
          | ok z =>
            have hst2 : Hid (seqL pre g (l.map Ex.er ++ [z.1]) z.2 = R) := by have := hstep.out; rw [hp, thn_ok] at this; exact this
            rw [hp] at hpre hfin
            unfold PR at hpre
            simp only at hpre
            unfold Says at hpre
            have HF : Hid (Fine T.data.toList u.s.length (.ok z)) := hfin
            clear hfin hp hstep
            go_wp2_with (first
              | (go_at_call 53; refine (hbc _).mono ?_; rintro e w2 ⟨rfl, rfl⟩)
              | (go_at_call 52; refine hpre.mono ?_; rintro e w3 ⟨⟨y, rfl, hye, hyo⟩, hb3, hg3⟩; have L3 : Hid _ := HL.out.call hg3 hb3; have HYO : Hid _ := hyo; clear hyo hb3 hg3 hpre)
              | (at_builtin; refine wpList_app_ex rfl _ _ rfl L3.out rfl rfl HL.out.gl.2 HYO.out hll ?_; intro g4 cap4 w4 L4))
            go_roundg g
            case measure => omega
            case rel =>
              refine ⟨g4, cap4, l ++ [y], z.2, by simp, L4, HF.out.1, ?_, ?_, by simp, ?_, ?_, ?_⟩
              · have h1 := HF.out.2.1; have h2 := HU.out.2.1; omega
              · have h1 := HF.out.2.1; have h2 := HU.out.2.2.1; omega
              · have h1 := HF.out.2.1; have h2 := HU.out.2.2.2.2.1; simp; omega
              · rw [List.map_append, List.map_cons, List.map_nil, hye]; exact hst2.out
              · intro q hq
                rw [List.map_append, List.map_cons, List.map_nil, hye] at hq
                rcases List.mem_append.1 hq with hq | hq
                · exact HU.out.2.2.2.2.2.2 q hq
                · rw [List.mem_singleton.1 hq]; exact HF.out.2.2
      | false =>
        rw [hbg] at hbc
        have hRe : R = .ok (gath 5 (l.map Ex.er), u) := by
          have := HU.out.2.2.2.2.2.1
          cases gk with
          | zero => exact this.symm
          | succ g => rw [seqL, hbg] at this; exact this.symm
        subst hRe
        have htg := together_any (w.heap.size + 1) 5 gb cap l wr (by have := HL.out.res.lt; omega) (HL.out.kl hll) HU.out.2.2.2.1
        unfold Says at htg
        clear hbg
        go_wp2_with (first
          | (go_at_call 53; refine (hbc _).mono ?_; rintro e w2 ⟨rfl, rfl⟩)
          | (go_at_call 27; refine htg.mono ?_; rintro e w3 ⟨⟨y, rfl, hye, hyo⟩, hb3⟩; have hb3' : Hid _ := hb3; have HYO : Hid _ := hyo; clear hyo hb3 htg)
          | (refine wpList_store_box rfl 27 _ _ rfl w.heap.size _ rfl rfl z7 (HL.out.res.below hb3'.out HL.out.res.lt) Tryd.info27 rfl (by simp [Value.oneCell']) ?_; intro w5 hx5 hg5; have hc := hx5.cell))
        refine bodyPost_ret (by simp [results, Tryd.results26, go_sem, hc]) rfl ⟨⟨y, rfl, hye, ?_⟩, ?_, ?_⟩
        · exact HYO.out.gr hg5 (fun b hb _ => ⟨fun e => by cases e; omega, by omega⟩)
        · exact (HL.out.box.below hb3'.out HL.out.box.lt).kept hg5 (fun e => by cases e; omega)
        · exact gr_own (gr_below HL.out.gr hb3'.out) hg5 (Nat.le_refl _)
end Go.Proofs.YtbeohmcmphebhaaDoor
