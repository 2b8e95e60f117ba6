import Derived.Test.YtbeohmcmphebhaaGreatDoorXApartC
import Derived.Test.YtbeohmcmphebhaaGreatDoorXApartB
import Derived.Test.YtbeohmcmphebhaaGreatDoorXSizeB
import Derived.Test.YtbeohmcmphebhaaGreatDoorXEq
namespace Go.Proofs.YtbeohmcmphebhaaGreatDoor
theorem star_bt (a x : Ex) (h7 : 7 ≤ a.k ∧ a.k ≤ 9) (hk : a.kids = [x]) : a.bt 3 = x.bt 3 ++ [sgn a.k] := by
  have ht := tight_cases a.k
  rw [bt_pr 3 a (by omega), pr_eq, if_neg (by omega), if_neg (by omega), if_neg (by omega), if_neg (by omega), if_neg (by omega), if_neg (by omega), if_neg (by omega), if_neg (by omega), hk]
  rfl
theorem star_kid {a : Ex} (ha : a.okA = true) (h7 : 7 ≤ a.k) : ∃ x, a.kids = [x] ∧ x.okA = true ∧ x.size < a.size := by
  have h1 : a.kids.length = 1 := by
    rcases form_kinds a (okA_form ha) with (⟨h1, h0⟩ | ⟨h1, h0⟩ | ⟨h1, h0, h2⟩ | ⟨h1, h0, h2⟩) | ⟨h1, h2, _⟩ | ⟨h1, h2, h3⟩
    all_goals omega
  obtain ⟨x, hx⟩ := kid_one h1
  have hm : x ∈ a.kids := by rw [hx]; exact List.mem_cons_self
  exact ⟨x, hx, okA_kid ha hm, size_kid hm⟩
theorem tg_any : ∀ (n : Nat) (b : Ex), b.size ≤ n → b.okA = true → ∀ R, tg (b.bt 3 ++ R) ≠ 7 ∧ tg (b.bt 3 ++ R) ≠ 8 := by
  intro n
  induction n with
  | zero => intro b hb; rw [size_eq] at hb; omega
  | succ n ih =>
    intro b hb hok R
    by_cases h7 : 7 ≤ b.k ∧ b.k ≤ 9
    · obtain ⟨x, hx, hxo, hxs⟩ := star_kid hok h7.1
      rw [star_bt b x h7 hx, List.append_assoc]
      exact ih x (by omega) hxo _
    · rcases tg_base b hok h7 R with ⟨_, e⟩ | ⟨_, _, e⟩ | ⟨_, _, e⟩ | ⟨_, e⟩ | ⟨_, e⟩ | ⟨_, e⟩ <;> rw [e] <;> exact ⟨by decide, by decide⟩
theorem post_ok {p r : List UInt8} (hp : ∀ c ∈ p, isPost c) (hr : fol2 r) : ∀ c t, p ++ r = c :: t → okc c = false := by
  intro c t h
  cases p with
  | nil => exact (hr c t h).2
  | cons d p =>
    simp only [List.cons_append, List.cons.injEq] at h
    rw [← h.1]
    exact post_not_ok d (hp d List.mem_cons_self)
theorem y_split (n : Nat) (HU : ∀ z : Ex, z.okA = true → (z.k = 5 ∨ z.k = 6 ∨ z.k = 10 ∨ z.k = 11) → (z.size ≤ n ∨ (z.size ≤ n + 1 ∧ (z.k = 5 ∨ z.k = 6))) → ∀ y : Ex, y.okA = true → U0 z y) :
    ∀ (m : Nat) (a b : Ex), a.size + b.size ≤ m → a.okA = true → b.okA = true → (a.size ≤ n ∨ (a.size ≤ n + 1 ∧ a.k ≠ 10 ∧ a.k ≠ 11)) → ∀ p q r s, (∀ c ∈ p, isPost c) → (∀ c ∈ q, isPost c) → fol2 r → fol2 s → a.bt 3 ++ (p ++ r) = b.bt 3 ++ (q ++ s) → wrapP a.er p = wrapP b.er q ∧ r = s := by
  intro m
  induction m with
  | zero => intro a b hm; have := size_eq a; omega
  | succ m ih =>
    intro a b hm ha hb hal p q r s hp hq hr hs h
    by_cases a7 : 7 ≤ a.k ∧ a.k ≤ 9
    · obtain ⟨x, hx, hxo, hxs⟩ := star_kid ha a7.1
      rw [star_bt a x a7 hx, List.append_assoc] at h
      have := ih x b (by omega) hxo hb (.inl (by omega)) (sgn a.k :: p) q r s (fun c hc => by
        rcases List.mem_cons.1 hc with rfl | hc
        · exact sgn_post _
        · exact hp c hc) hq hr hs (by simpa using h)
      rw [star_er a x (okA_form ha) a7 hx]
      exact this
    · by_cases b7 : 7 ≤ b.k ∧ b.k ≤ 9
      · obtain ⟨y, hy, hyo, hys⟩ := star_kid hb b7.1
        rw [star_bt b y b7 hy, List.append_assoc] at h
        have := ih a y (by omega) ha hyo hal p (sgn b.k :: q) r s hp (fun c hc => by
          rcases List.mem_cons.1 hc with rfl | hc
          · exact sgn_post _
          · exact hq c hc) hr hs (by simpa using h)
        rw [star_er b y (okA_form hb) b7 hy]
        exact this
      · have h1 := base_split a b ha hb a7 b7 (fun hk => HU a ha hk (by rcases hal with h2 | h2; exact .inl h2; exact .inr ⟨h2.1, by omega⟩) b hb) (p ++ r) (q ++ s) (post_ok hp hr) (post_ok hq hs) h
        have h2 := post_split p q r s hp hq hr hs h1.2
        exact ⟨by rw [h1.1, h2.1], h2.2⟩
theorem items2_size {x : Ex} (n : Nat) (h : x.size ≤ n) : ∀ y ∈ items2 x, y.size ≤ n := by
  intro y hy
  unfold items2 at hy
  split at hy
  · have := size_kid hy; omega
  · simp at hy; rw [hy]; exact h
theorem pre_bt (c : UInt8) (K : Int) (hK : K = 10 ∧ c = 38 ∨ K = 11 ∧ c = 33) (a x : Ex) (hk : a.k = K) (hx : a.kids = [x]) : a.bt 2 = c :: x.bt 2 := by
  have ht := tight_cases a.k
  rw [bt_pr 2 a (by omega), pr_eq, if_neg (by omega), if_neg (by omega), if_neg (by omega), if_neg (by omega), if_neg (by omega), if_neg (by omega), hx]
  rcases hK with ⟨h1, rfl⟩ | ⟨h1, rfl⟩
  · rw [if_pos (by omega)]; rfl
  · rw [if_neg (by omega), if_pos (by omega)]; rfl
theorem bt23 (a : Ex) (h : a.k ≠ 10 ∧ a.k ≠ 11) : a.bt 2 = a.bt 3 := by
  have ht := tight_cases a.k
  by_cases h1 : a.k = 5 ∨ a.k = 6
  · rw [bt_brk 2 a (by omega), bt_brk 3 a (by omega)]
  · rw [bt_pr 2 a (by omega), bt_pr 3 a (by omega)]
theorem pre_er (a b x y : Ex) (ha : a.okA = true) (hb : b.okA = true) (hk : a.k = b.k) (h7 : 7 ≤ a.k) (hx : a.kids = [x]) (hy : b.kids = [y]) (h : x.er = y.er) : a.er = b.er := by
  have h1 := form_rest a (okA_form ha) (by omega)
  have h2 := form_rest b (okA_form hb) (by omega)
  rw [er_eq, er_eq, hx, hy, h1.1, h1.2, h2.1, h2.2, hk, List.map_cons, List.map_cons, h, List.map_nil]
theorem u2_all : ∀ (n : Nat) (a : Ex), a.size ≤ n → a.okA = true → ∀ b : Ex, b.okA = true → U2 a b := by
  intro n
  induction n with
  | zero => intro a ha; rw [size_eq] at ha; omega
  | succ n ih =>
    intro a han ha b hb r s hr hs h
    have HU : ∀ z : Ex, z.okA = true → (z.k = 5 ∨ z.k = 6 ∨ z.k = 10 ∨ z.k = 11) → (z.size ≤ n ∨ (z.size ≤ n + 1 ∧ (z.k = 5 ∨ z.k = 6))) → ∀ y : Ex, y.okA = true → U0 z y := by
      intro z hz hzk hzs y hy
      refine U0_of z hz (fun u hu c hc => ?_) y hy
      have huo := items1_ok hz u hu
      refine U1_of u huo (fun v hv d hd => ?_) c hc
      have hvo := items2_ok huo v hv
      refine ih v ?_ hvo d hd
      unfold items1 at hu
      split at hu
      · have h1 := size_kid hu
        exact items2_size n (by omega) v hv
      · simp at hu
        subst hu
        unfold items2 at hv
        split at hv
        · have := size_kid hv; omega
        · simp at hv; subst hv; omega
    by_cases hak : a.k = 10 ∨ a.k = 11
    · obtain ⟨x, hx, hxo, hxs⟩ := star_kid ha (by omega)
      obtain ⟨ca, hca, hta⟩ : ∃ c : UInt8, (a.k = 10 ∧ c = 38 ∨ a.k = 11 ∧ c = 33) ∧ ∀ t, tg (c :: t) = (if a.k = 10 then 7 else 8) := by
        rcases hak with h1 | h1
        · exact ⟨38, .inl ⟨h1, rfl⟩, fun t => by rw [if_pos h1]; rfl⟩
        · exact ⟨33, .inr ⟨h1, rfl⟩, fun t => by rw [if_neg (by omega)]; rfl⟩
      rw [pre_bt ca a.k hca a x rfl hx] at h
      by_cases hbk : b.k = 10 ∨ b.k = 11
      · obtain ⟨y, hy, hyo, hys⟩ := star_kid hb (by omega)
        obtain ⟨cb, hcb⟩ : ∃ c : UInt8, (b.k = 10 ∧ c = 38 ∨ b.k = 11 ∧ c = 33) := by
          rcases hbk with h1 | h1
          · exact ⟨38, .inl ⟨h1, rfl⟩⟩
          · exact ⟨33, .inr ⟨h1, rfl⟩⟩
        rw [pre_bt cb b.k hcb b y rfl hy] at h
        simp only [List.cons_append, List.cons.injEq] at h
        have hkk : a.k = b.k := by
          rcases hca with ⟨g1, g2⟩ | ⟨g1, g2⟩ <;> rcases hcb with ⟨g3, g4⟩ | ⟨g3, g4⟩
          · omega
          · rw [g2, g4] at h; exact absurd h.1 (by decide)
          · rw [g2, g4] at h; exact absurd h.1 (by decide)
          · omega
        have h2 := ih x (by omega) hxo y hyo r s hr hs h.2
        exact ⟨pre_er a b x y ha hb hkk (by omega) hx hy h2.1, h2.2⟩
      · rw [bt23 b (by omega)] at h
        have h1 := tg_any b.size b (Nat.le_refl _) hb s
        rw [← h, List.cons_append, hta] at h1
        exfalso
        split at h1
        · exact h1.1 rfl
        · exact h1.2 rfl
    · rw [bt23 a (by omega)] at h
      by_cases hbk : b.k = 10 ∨ b.k = 11
      · obtain ⟨y, hy, hyo, hys⟩ := star_kid hb (by omega)
        obtain ⟨cb, hcb, htb⟩ : ∃ c : UInt8, (b.k = 10 ∧ c = 38 ∨ b.k = 11 ∧ c = 33) ∧ ∀ t, tg (c :: t) = (if b.k = 10 then 7 else 8) := by
          rcases hbk with h1 | h1
          · exact ⟨38, .inl ⟨h1, rfl⟩, fun t => by rw [if_pos h1]; rfl⟩
          · exact ⟨33, .inr ⟨h1, rfl⟩, fun t => by rw [if_neg (by omega)]; rfl⟩
        rw [pre_bt cb b.k hcb b y rfl hy] at h
        have h1 := tg_any a.size a (Nat.le_refl _) ha r
        rw [h, List.cons_append, htb] at h1
        exfalso
        split at h1
        · exact h1.1 rfl
        · exact h1.2 rfl
      · rw [bt23 b (by omega)] at h
        have := y_split n HU (a.size + b.size) a b (Nat.le_refl _) ha hb (.inr ⟨han, by omega, by omega⟩) [] [] r s (by simp) (by simp) hr hs (by simpa using h)
        exact this
/-- Two right expressions with one text are one. -/
theorem pr_inj (a b : Ex) (ha : a.okA = true) (hb : b.okA = true) (h : a.pr = b.pr) : a.same b = true := by
  rw [same_er]
  have H : ∀ z : Ex, z.okA = true → ∀ y : Ex, y.okA = true → U0 z y := fun z hz y hy =>
    U0_of z hz (fun u hu c hc => U1_of u (items1_ok hz u hu) (fun v hv d hd => u2_all v.size v (Nat.le_refl _) (items2_ok (items1_ok hz u hu) v hv) d hd) c hc) y hy
  exact (H a ha b hb [] [] (.inl rfl) (.inl rfl) (by rw [h])).1
theorem pr_same (a b : Ex) (ha : a.okA = true) (hb : b.okA = true) : decide (a.pr = b.pr) = a.same b := by
  rw [Bool.eq_iff_iff, decide_eq_true_eq]
  exact ⟨pr_inj a b ha hb, fun h => (same_pr a b h).1⟩
end Go.Proofs.YtbeohmcmphebhaaGreatDoor
namespace Go.Proofs.YtbeohmcmphebhaaGreatDoor
open Go.RowKit
open Ex.same (sameL)
set_option linter.unusedVariables false
attribute [local go_sem] eq_arr
theorem sameL_len : ∀ (l m : List Ex), sameL l m = true → l.length = m.length
  | [], [], _ => rfl
  | [], _ :: _, h => by simp [sameL] at h
  | _ :: _, [], h => by simp [sameL] at h
  | x :: r, y :: s, h => by rw [sameL_cons] at h; simp [sameL_len r s h.2]
theorem sameL_at : ∀ (l m : List Ex) (i : Nat) (x y : Ex), sameL l m = true → l[i]? = some x → m[i]? = some y → x.same y = true
  | x :: r, y :: s, 0, a, b, h, h1, h2 => by
    rw [sameL_cons] at h
    simp at h1 h2; subst h1 h2; exact h.1
  | x :: r, y :: s, i + 1, a, b, h, h1, h2 => by
    rw [sameL_cons] at h
    exact sameL_at r s i a b h.2 (by simpa using h1) (by simpa using h2)
  | [], _, _, _, _, _, h1, _ => by simp at h1
  | _ :: _, [], _, _, _, h, _, _ => by simp [sameL] at h
theorem sameL_all : ∀ (l m : List Ex), l.length = m.length → (∀ (i : Nat) (x y : Ex), l[i]? = some x → m[i]? = some y → x.same y = true) → sameL l m = true
  | [], [], _, _ => rfl
  | [], _ :: _, h, _ => by simp at h
  | _ :: _, [], h, _ => by simp at h
  | x :: r, y :: s, h, H => by
    rw [sameL_cons]
    exact ⟨H 0 x y rfl rfl, sameL_all r s (by simpa using h) fun i a b h1 h2 => H (i + 1) a b (by simpa using h1) (by simpa using h2)⟩
/-- What Same does with an expression. -/
def SmC (a : Ex) : Prop := ∀ (b : Ex) (w : World), a.In w.heap.size w → b.In w.heap.size w → Calls Tryz.prog 17 #[a.val, b.val] w fun r w' => r = .returned (.bool (a.same b)) ∧ Below w.heap.size w w'
set_option maxRecDepth 20000 in
set_option maxHeartbeats 4000000 in
theorem eqf_any (a b : Ex) (hs : ∀ x ∈ a.kids, SmC x) (w : World) (hia : a.In w.heap.size w) (hib : b.In w.heap.size w) :
    Calls Tryz.prog 40 #[.slice a.a a.kids.length a.c, .slice b.a b.kids.length b.c, .func (.func 17) #[] #[]] w fun r w' => r = .returned (.bool (sameL a.kids b.kids)) ∧ Below w.heap.size w w' := by
  have hla := hia.len
  have hlb := hib.len
  obtain ⟨R, hR⟩ : ∃ R, sameL a.kids b.kids = R := ⟨_, rfl⟩
  have HR : Hid (sameL a.kids b.kids = R) := hR
  rw [hR]
  clear hR
  by_cases hl : a.kids.length = b.kids.length
  · have HL : Hid (a.kids.length = b.kids.length) := hl
    have HA : Hid (a.In w.heap.size w ∧ b.In w.heap.size w ∧ ∀ x ∈ a.kids, SmC x) := ⟨hia, hib, hs⟩
    clear hia hib hs hl
    rw [← HL.out]
    go_enter Tryz.func40, Tryz.ntmps40
    go_wp2_with fail
    go_loopw [17] (fun q wr => ∃ i : Nat, q = .int .i64 i ∧ i ≤ a.kids.length ∧ Hid (∀ j x y, j < i → a.kids[j]? = some x → b.kids[j]? = some y → x.same y = true) ∧ Hid (Below w.heap.size w wr)) (fun q _ => a.kids.length - (intOf q).toNat)
    case atStart => exact ⟨0, rfl, Nat.zero_le _, fun j _ _ hj => by omega, Below.refl _ _⟩
    case round =>
      obtain ⟨i, rfl, hi, HS, HB⟩ := hrel
      by_cases hend : i = a.kids.length
      · have hRt : R = true := by
          rw [← HR.out]
          exact sameL_all _ _ HL.out fun j x y h1 h2 => HS.out j x y (by have := (List.getElem?_eq_some_iff.1 h1).1; omega) h1 h2
        subst hend
        subst hRt
        go_wp2_with fail
        go_ret
        exact ⟨rfl, HB.out⟩
      · have hlt : i < a.kids.length := by omega
        clear hend
        obtain ⟨x, hx⟩ : ∃ x, a.kids[i]? = some x := ⟨_, List.getElem?_eq_getElem hlt⟩
        obtain ⟨y, hy⟩ : ∃ y, b.kids[i]? = some y := ⟨_, List.getElem?_eq_getElem (by have := HL.out; omega)⟩
        obtain ⟨⟨bx, ox, hax, hbx, hcx⟩, hinx⟩ := (HA.out.1.below HB.out).kid hx
        obtain ⟨⟨by', oy, hay, hby, hcy⟩, hiny⟩ := (HA.out.2.1.below HB.out).kid hy
        have hszw := HB.out.size
        have hAx := (Below.refl wr.heap.size wr).alloc (Nat.le_refl _) (.cells x.cells 43)
        have c0 := hcx 0 (by omega)
        have c1 := hcx 1 (by omega)
        have c2 := hcx 2 (by omega)
        have c3 := hcx 3 (by omega)
        have c4 := hcx 4 (by omega)
        have c5 := hcx 5 (by omega)
        have c6 := hcx 6 (by omega)
        have hcy2 : ∀ m, m < 7 → (wr.alloc (.cells x.cells 43)).cell? ⟨by', oy + i * 7 + m, none⟩ = y.cells[m]? := fun m hm => (hAx.cell (p := ⟨by', oy + i * 7 + m, none⟩) (by show by' < _; omega)).trans (hcy m hm)
        have d0 := hcy2 0 (by omega)
        have d1 := hcy2 1 (by omega)
        have d2 := hcy2 2 (by omega)
        have d3 := hcy2 3 (by omega)
        have d4 := hcy2 4 (by omega)
        have d5 := hcy2 5 (by omega)
        have d6 := hcy2 6 (by omega)
        simp only [cells_eq] at c0 c1 c2 c3 c4 c5 c6 d0 d1 d2 d3 d4 d5 d6
        simp only [List.getElem?_toArray, List.getElem?_cons_zero, List.getElem?_cons_succ, Nat.add_zero] at c0 c1 c2 c3 c4 c5 c6 d0 d1 d2 d3 d4 d5 d6
        rw [hax, hay]
        have hAy := hAx.alloc (by simp) (.cells y.cells 43)
        have hcall := HA.out.2.2 x (List.mem_of_getElem? hx) y ((wr.alloc (.cells x.cells 43)).alloc (.cells y.cells 43)) ((hinx.below (hAy.mono hszw)).mono (by simp; omega)) ((hiny.below (hAy.mono hszw)).mono (by simp; omega))
        rw [val_eq, val_eq, cells_eq, cells_eq] at hcall
        have HBn : Hid (∀ {W4 : World}, Below ((wr.alloc (.cells x.cells 43)).alloc (.cells y.cells 43)).heap.size ((wr.alloc (.cells x.cells 43)).alloc (.cells y.cells 43)) W4 → Below w.heap.size w W4) := fun hb => HB.out.trans ((hAy.trans (hb.mono (by simp; omega))).mono hszw)
        have bX := (BoxN.new wr 43 x.cells).alloc (.cells y.cells 43)
        have cBX := bX.cell
        simp only [cells_eq] at cBX
        have H1 : Hid (x.same y = false → R = false) := fun h => by
          rw [← HR.out, Bool.eq_false_iff]
          intro h2
          rw [sameL_at _ _ i x y h2 hx hy] at h
          cases h
        have H2 : Hid (x.same y = true → ∀ j u v, j < i + 1 → a.kids[j]? = some u → b.kids[j]? = some v → u.same v = true) := fun h j u v hj h1 h2 => by
          by_cases hji : j = i
          · subst hji
            rw [hx] at h1
            rw [hy] at h2
            cases h1
            cases h2
            exact h
          · exact HS.out j u v (by omega) h1 h2
        clear hcx hcy hcy2 hinx hiny hax hay hbx hby hx hy hAx hAy bX HS HB
        cases hsm : x.same y with
        | false =>
          have hRf := H1.out hsm
          rw [hsm] at hcall
          clear hsm H1 H2
          subst hRf
          go_wp2_with (go_at_call 17; refine hcall.mono ?_; clear hcall; rintro r W4 ⟨rfl, hb4⟩; simp only [← cells_eq] at hb4)
          go_ret
          exact ⟨rfl, HBn.out hb4⟩
        | true =>
          have H3 : Hid _ := H2.out hsm
          rw [hsm] at hcall
          clear hsm H1 H2
          go_wp2_with (go_at_call 17; refine hcall.mono ?_; clear hcall; rintro r W4 ⟨rfl, hb4⟩; simp only [← cells_eq] at hb4)
          exact ⟨⟨i + 1, by go_num, by omega, H3, HBn.out hb4⟩, by simp [intOf]; omega⟩
  · have hRf : R = false := by
      rw [← HR.out, Bool.eq_false_iff]
      intro h
      exact hl (sameL_len _ _ h)
    subst hRf
    have g : ((a.kids.length : Int) != (b.kids.length : Int)) = true := by simp; omega
    go_enter Tryz.func40, Tryz.ntmps40
    go_wp2_with fail
    go_ret
    exact ⟨rfl, Below.refl _ _⟩
theorem ws_test (S T : BitVec 256) : ((wd S 0 == wd T 0) && ((wd S 1 == wd T 1) && ((wd S 2 == wd T 2) && (wd S 3 == wd T 3)))) = decide (S = T) := by
  rw [Bool.eq_iff_iff, decide_eq_true_eq]
  simp only [Bool.and_eq_true, beq_iff_eq]
  constructor
  · rintro ⟨h0, h1, h2, h3⟩
    exact wd_inj _ _ fun k hk => by
      match k, hk with
      | 0, _ => exact h0
      | 1, _ => exact h1
      | 2, _ => exact h2
      | 3, _ => exact h3
  · rintro rfl
    exact ⟨rfl, rfl, rfl, rfl⟩
theorem same_and (a b : Ex) : a.same b = (decide (a.k = b.k) && decide (a.S = b.S) && decide (a.t = b.t) && sameL a.kids b.kids) := by
  rw [Bool.eq_iff_iff, same_iff]
  simp only [Bool.and_eq_true, decide_eq_true_eq]
  constructor
  · rintro ⟨h1, h2, h3, h4⟩; exact ⟨⟨⟨h1, h2⟩, h3⟩, h4⟩
  · rintro ⟨⟨⟨h1, h2⟩, h3⟩, h4⟩; exact ⟨h1, h2, h3, h4⟩
set_option maxRecDepth 20000 in
set_option maxHeartbeats 4000000 in
theorem same_step (a b : Ex) (hs : ∀ x ∈ a.kids, SmC x) (w : World) (hia : a.In w.heap.size w) (hib : b.In w.heap.size w) :
    Calls Tryz.prog 17 #[a.val, b.val] w fun r w' => r = .returned (.bool (a.same b)) ∧ Below w.heap.size w w' := by
  have hA := ((Below.refl w.heap.size w).alloc (Nat.le_refl _) (.cells a.cells 43)).alloc (by simp) (.cells b.cells 43)
  have heq := eqf_any a b hs ((w.alloc (.cells a.cells 43)).alloc (.cells b.cells 43)) (hia.grow hA) (hib.grow hA)
  have HA : Hid _ := hA
  have H : Hid (a.same b = _) := same_and a b
  have hws := ws_test a.S b.S
  generalize a.same b = R at *
  rw [val_eq, val_eq]
  rw [cells_eq, cells_eq] at heq
  generalize sameL a.kids b.kids = L at *
  clear hA hs
  cases hk : decide (a.k = b.k) with
  | false =>
    have g : (a.k == b.k) = false := by simpa using hk
    have hR : R = false := by rw [H.out, hk]; rfl
    subst hR
    clear hk
    go_enter Tryz.func17, Tryz.ntmps17
    go_wp2_with fail
    go_ret
    simp only [← cells_eq]
    exact ⟨rfl, HA.out⟩
  | true =>
    have g : (a.k == b.k) = true := by simpa using hk
    cases hS : decide (a.S = b.S) with
    | false =>
      have hR : R = false := by rw [H.out, hk, hS]; rfl
      subst hR
      rw [hS] at hws
      clear hk hS
      go_enter Tryz.func17, Tryz.ntmps17
      go_wp2_with fail
      go_ret
      simp only [← cells_eq]
      exact ⟨rfl, HA.out⟩
    | true =>
      rw [hS] at hws
      cases ht : decide (a.t = b.t) with
      | false =>
        have hR : R = false := by rw [H.out, hk, hS, ht]; rfl
        have g4 : (a.t.toList == b.t.toList) = false := by
          rw [beq_eq_false_iff_ne]
          intro h
          rw [ByteArray.toList_eq, ByteArray.toList_eq] at h
          have h2 : a.t = b.t := by
            cases ha : a.t with
            | mk x => cases hb : b.t with
              | mk y =>
                rw [ha, hb] at h
                congr 1
                exact Array.ext' h
          simp [h2] at ht
        subst hR
        clear hk hS ht
        go_enter Tryz.func17, Tryz.ntmps17
        go_wp2_with fail
        go_ret
        simp only [← cells_eq]
        exact ⟨rfl, HA.out⟩
      | true =>
        have hR : R = L := by rw [H.out, hk, hS, ht]; simp
        have hte : a.t = b.t := by simpa using ht
        have g4 : (a.t.toList == b.t.toList) = true := by rw [hte]; simp
        subst hR
        clear hk hS ht hte
        go_enter Tryz.func17, Tryz.ntmps17
        go_wp2_with (go_at_call 40; refine heq.mono ?_; clear heq; rintro r W4 ⟨rfl, hb4⟩; simp only [← cells_eq] at hb4)
        go_ret
        exact ⟨rfl, HA.out.trans (hb4.mono HA.out.size)⟩
theorem same_size : ∀ (n : Nat) (a : Ex), a.size ≤ n → SmC a
  | 0, a, h => absurd h (by rw [size_eq]; omega)
  | n + 1, a, h => fun b w hia hib => same_step a b (fun x hx => same_size n x (by have := size_kid hx; omega)) w hia hib
theorem same_any (a b : Ex) (w : World) (hia : a.In w.heap.size w) (hib : b.In w.heap.size w) :
    Calls Tryz.prog 17 #[a.val, b.val] w fun r w' => r = .returned (.bool (a.same b)) ∧ Below w.heap.size w w' :=
  same_size a.size a (Nat.le_refl _) b w hia hib
end Go.Proofs.YtbeohmcmphebhaaGreatDoor
