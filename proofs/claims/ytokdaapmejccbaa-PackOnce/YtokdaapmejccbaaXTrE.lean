import Derived.Test.YtokdaapmejccbaaXTrC
namespace Go.Proofs.Ytokdaapmejccbaa
open Go.RowKit
set_option linter.unusedVariables false
set_option linter.unusedSimpArgs false
theorem neq_nil93 (w : World) : Sem.run Try.prog (binOp BinOp.neq 93 .nilFunc .nilFunc) w = .ok (.bool false) w := by kernel_rfl
theorem neq_func93 (f : Fn) (a c : Array Value) (w : World) : Sem.run Try.prog (binOp BinOp.neq 93 (.func f a c) .nilFunc) w = .ok (.bool true) w := by kernel_rfl
theorem oc_form (p : Nat) : ∀ o : Ot, ∃ z n, ocells p o = #[.bool z, .int .i64 n]
  | none => ⟨false, 0, rfl⟩
  | some q => ⟨true, _, rfl⟩
section
variable {σ : Type} {T : ByteArray} {tb tO N : Nat} {rv tv : Value} {J : σ → World → Prop} {X : World → Nat → Prop}
set_option maxRecDepth 20000 in
set_option maxHeartbeats 4000000 in
theorem try_nil (E : Envx σ T tb tO N rv tv J X) (htv : tv = .nilFunc) (e : Ex) (p : Nat) (x : σ) (r : Option (Ot × σ)) (w : World) (nb no : Nat) (hJ : J x w)
    (hcall : ∀ W, Below N w W → J x W → Calls Try.prog 104 #[.pointer (some ⟨tb, tO, none⟩), .pointer (some ⟨nb, no, none⟩), .int .i64 (p : Int)] W (TryR J X p r W)) :
    Calls Try.prog 74 #[.pointer (some ⟨tb, tO, none⟩), .pointer (some ⟨nb, no, none⟩), .int .i64 (p : Int)] w (TryR J X p r w) := by
  have HM : Hid (MO N J X w w.heap.size x _ _) := MO.new E hJ #[.bool false, .int .i64 0]
  have hcl := hcall _ (HM.out.low E hJ) HM.out.m.j
  clear hcall hJ
  have hnn := fun W => neq_nil93 W
  cases r with
  | none =>
    unfold TryR thrownV at hcl ⊢
    simp only at hcl ⊢
    go_enter Try.func74, Try.ntmps74
    go_wp2_with (go_at_call 104; refine hcl.mono ?_; rintro e1 W1 ⟨rfl, hk1, hj1⟩)
    exact ⟨rfl, rfl, HM.out.m.kp.trans hk1, hj1⟩
  | some r =>
    obtain ⟨o, y⟩ := r
    unfold TryR at hcl ⊢
    simp only at hcl ⊢
    unfold oval at hcl ⊢
    obtain ⟨z, n, hzn⟩ := oc_form p o
    rw [hzn] at hcl ⊢
    go_enter Try.func74, Try.ntmps74
    go_wp2_with (first
      | (go_at_call 104; refine hcl.mono ?_; rintro e1 W1 ⟨rfl, hk1, hj1⟩; have HM1 : Hid (MO N J X w w.heap.size y _ (W1.alloc (.cells #[.bool z, .int .i64 n] 29))) := (HM.out.call hk1 hj1).alloc E _; have c2 := E.c2 HM1.out.m.j; rw [htv] at c2; clear hk1 hj1)
      | (refine wpList_store_box rfl 29 _ _ rfl w.heap.size _ rfl rfl _ HM1.out.o.box Try.info29 rfl (by simp [Value.oneCell']) ?_; intro w5 hx5 hg5; have hc := hx5.cell; have HM5 : Hid _ := HM1.out.store E hx5 hg5))
    exact bodyPost_ret (by simp [results, Try.results74, go_sem, hc]) rfl ⟨rfl, HM5.out.m.kp, HM5.out.m.j⟩
set_option maxRecDepth 20000 in
set_option maxHeartbeats 4000000 in
theorem try_thrown (E : Envx σ T tb tO N rv tv J X) (p : Nat) (x : σ) (w : World) (nb no : Nat) (hJ : J x w)
    (hcall : ∀ W, Below N w W → J x W → Calls Try.prog 104 #[.pointer (some ⟨tb, tO, none⟩), .pointer (some ⟨nb, no, none⟩), .int .i64 (p : Int)] W (TryR J X p none W)) :
    Calls Try.prog 74 #[.pointer (some ⟨tb, tO, none⟩), .pointer (some ⟨nb, no, none⟩), .int .i64 (p : Int)] w (TryR J X p none w) := by
  have HM : Hid (MO N J X w w.heap.size x _ _) := MO.new E hJ #[.bool false, .int .i64 0]
  have hcl := hcall _ (HM.out.low E hJ) HM.out.m.j
  clear hcall hJ
  unfold TryR thrownV at hcl ⊢
  simp only at hcl ⊢
  go_enter Try.func74, Try.ntmps74
  go_wp2_with (go_at_call 104; refine hcl.mono ?_; rintro e1 W1 ⟨rfl, hk1, hj1⟩)
  exact ⟨rfl, rfl, HM.out.m.kp.trans hk1, hj1⟩
/-- What comes of telling. -/
def TellR (J : σ → World → Prop) (X : World → Nat → Prop) (u : Option σ) (W : World) (e : Ending) (W' : World) : Prop :=
  match u with
  | none => e = thrownV ∧ Kpx X W W' ∧ ∃ y, J y W'
  | some y => e = .returned (.tuple #[]) ∧ Kpx X W W' ∧ J y W'
set_option maxRecDepth 20000 in
set_option maxHeartbeats 4000000 in
theorem try_told (E : Envx σ T tb tO N rv tv J X) (rn : Nat) (rf rc : Array Value) (htv : tv = .func (.func rn) rf rc) (hrun : ∀ (av : Array Value) (W : World), Sem.run Try.prog (callFunc rn av) W = .ok (.enter rn av) W) (p : Nat) (x : σ) (o : Ot) (y : σ) (u : Option σ) (w : World) (nb no : Nat) (hJ : J x w)
    (hcall : ∀ W, Below N w W → J x W → Calls Try.prog 104 #[.pointer (some ⟨tb, tO, none⟩), .pointer (some ⟨nb, no, none⟩), .int .i64 (p : Int)] W (TryR J X p (some (o, y)) W))
    (hT : ∀ W, J y W → Calls Try.prog rn (rf ++ (#[.pointer (some ⟨nb, no, none⟩), .int .i64 (p : Int), oval p o] ++ rc)) W (TellR J X u W)) :
    Calls Try.prog 74 #[.pointer (some ⟨tb, tO, none⟩), .pointer (some ⟨nb, no, none⟩), .int .i64 (p : Int)] w (TryR J X p (u.map fun z => (o, z)) w) := by
  have HM : Hid (MO N J X w w.heap.size x _ _) := MO.new E hJ #[.bool false, .int .i64 0]
  have hcl := hcall _ (HM.out.low E hJ) HM.out.m.j
  clear hcall hJ
  have hnf := fun f a c W => neq_func93 f a c W
  unfold TryR at hcl
  simp only at hcl
  unfold oval at hcl hT
  obtain ⟨z, n, hzn⟩ := oc_form p o
  rw [hzn] at hcl hT
  cases u with
  | none =>
    unfold TellR thrownV at hT
    unfold TryR thrownV
    simp only [Option.map_none] at hT ⊢
    go_enter Try.func74, Try.ntmps74
    go_wp2_with (go_at_call 104; refine hcl.mono ?_; rintro e1 W1 ⟨rfl, hk1, hj1⟩; have HM1 : Hid (MO N J X w w.heap.size y _ (W1.alloc (.cells #[.bool z, .int .i64 n] 29))) := (HM.out.call hk1 hj1).alloc E _; have HO1 : Hid (Obx X w (W1.alloc (.cells #[.bool z, .int .i64 n] 29)) W1.heap.size #[.bool z, .int .i64 n]) := Obx.new E (HM.out.call hk1 hj1).m _; have c2 := E.c2 HM1.out.m.j; rw [htv] at c2; clear hk1 hj1)
    have HT := hT ((W1.alloc (.cells #[.bool z, .int .i64 n] 29)).drew) (HM1.out.drew E).m.j
    have HS : Hid (_ ∧ _ ∧ _) := ⟨c2, HO1.out.box.cell 0, HO1.out.box.cell 1⟩
    simp only [List.getElem?_toArray, List.getElem?_cons_zero, List.getElem?_cons_succ] at HS
    have HM2 : Hid (MO N J X w w.heap.size y _ _) := HM1.out.drew E
    have HO2 : Hid (Obx X w _ W1.heap.size _) := HO1.out.drew E HM1.out.m
    clear c2 hT HO1 HM1
    generalize W1.alloc (.cells #[.bool z, .int .i64 n] 29) = w2 at *
    refine wp_region_sch (fun W => W.cell? ⟨tb, tO + 2, none⟩ = some (.func (.func rn) rf rc) ∧ W.cell? ⟨W1.heap.size, 0, none⟩ = some (.bool z) ∧ W.cell? ⟨W1.heap.size, 1, none⟩ = some (.int .i64 n)) 8 [(0,true),(1,true),(2,true),(3,true),(4,true),(5,true),(6,true),(7,false)] _ (by kernel_rfl) (by kernel_rfl) (fun h => absurd h (by decide)) (by kernel_rfl) rfl (fun c a d v w h => by cases d <;> exact h) HS.out ?_
    iterate 7
      refine wpSch_read rfl rfl ?_
      apply Exists.intro
      refine ⟨fun W hW => ?_, ?_⟩
      · obtain ⟨r1, r2, r3⟩ := hW
        go_simp
        with_reducible rfl
      simp only [Act.put, List.setIfInBounds_toArray, List.set_cons_zero, List.set_cons_succ]
    refine wpSch_list rfl rfl (fun K hK => ?_)
    go_wp2_with fail
    refine HT.mono ?_
    rintro e1 W3 ⟨rfl, hk1, hj1⟩
    exact ⟨rfl, rfl, HM2.out.m.kp.trans hk1, hj1⟩
  | some v =>
    unfold TellR at hT
    unfold TryR
    simp only [Option.map_some] at hT ⊢
    unfold oval
    rw [hzn]
    go_enter Try.func74, Try.ntmps74
    go_wp2_with (go_at_call 104; refine hcl.mono ?_; rintro e1 W1 ⟨rfl, hk1, hj1⟩; have HM1 : Hid (MO N J X w w.heap.size y _ (W1.alloc (.cells #[.bool z, .int .i64 n] 29))) := (HM.out.call hk1 hj1).alloc E _; have HO1 : Hid (Obx X w (W1.alloc (.cells #[.bool z, .int .i64 n] 29)) W1.heap.size #[.bool z, .int .i64 n]) := Obx.new E (HM.out.call hk1 hj1).m _; have c2 := E.c2 HM1.out.m.j; rw [htv] at c2; clear hk1 hj1)
    have HT := hT ((W1.alloc (.cells #[.bool z, .int .i64 n] 29)).drew) (HM1.out.drew E).m.j
    have HS : Hid (_ ∧ _ ∧ _) := ⟨c2, HO1.out.box.cell 0, HO1.out.box.cell 1⟩
    simp only [List.getElem?_toArray, List.getElem?_cons_zero, List.getElem?_cons_succ] at HS
    have HM2 : Hid (MO N J X w w.heap.size y _ _) := HM1.out.drew E
    have HO2 : Hid (Obx X w _ W1.heap.size _) := HO1.out.drew E HM1.out.m
    clear c2 hT HO1 HM1
    generalize W1.alloc (.cells #[.bool z, .int .i64 n] 29) = w2 at *
    refine wp_region_sch (fun W => W.cell? ⟨tb, tO + 2, none⟩ = some (.func (.func rn) rf rc) ∧ W.cell? ⟨W1.heap.size, 0, none⟩ = some (.bool z) ∧ W.cell? ⟨W1.heap.size, 1, none⟩ = some (.int .i64 n)) 8 [(0,true),(1,true),(2,true),(3,true),(4,true),(5,true),(6,true),(7,false)] _ (by kernel_rfl) (by kernel_rfl) (fun h => absurd h (by decide)) (by kernel_rfl) rfl (fun c a d v w h => by cases d <;> exact h) HS.out ?_
    iterate 7
      refine wpSch_read rfl rfl ?_
      apply Exists.intro
      refine ⟨fun W hW => ?_, ?_⟩
      · obtain ⟨r1, r2, r3⟩ := hW
        go_simp
        with_reducible rfl
      simp only [Act.put, List.setIfInBounds_toArray, List.set_cons_zero, List.set_cons_succ]
    refine wpSch_list rfl rfl (fun K hK => ?_)
    go_wp2_with fail
    refine HT.mono ?_
    rintro e1 W3 ⟨rfl, hk1, hj1⟩
    go_wp2_with fail
    have HM3 : Hid _ := HM2.out.call hk1 hj1
    have HO3 : Hid _ := HO2.out.call hk1
    have c3 := E.c2 HM3.out.m.j
    rw [htv] at c3
    refine hK _ _ (fun _ => ⟨c3, HO3.out.box.cell 0, HO3.out.box.cell 1⟩) ?_
    clear hK K hk1 hj1 c3
    unfold wpSch
    have b0 := HO3.out.box.cell 0
    have b1 := HO3.out.box.cell 1
    simp only [List.getElem?_toArray, List.getElem?_cons_zero, List.getElem?_cons_succ] at b0 b1
    go_wp2_with (refine wpList_store_box rfl 29 _ _ rfl w.heap.size _ rfl rfl _ HM3.out.o.box Try.info29 rfl (by simp [Value.oneCell']) ?_; intro w5 hx5 hg5; have hc := hx5.cell; have HM5 : Hid _ := HM3.out.store E hx5 hg5)
    exact bodyPost_ret (by simp [results, Try.results74, go_sem, hc]) rfl ⟨rfl, HM5.out.m.kp, HM5.out.m.j⟩
end
end Go.Proofs.Ytokdaapmejccbaa
namespace Go.Proofs.Ytokdaapmejccbaa
open Go.RowKit
set_option linter.unusedVariables false
set_option linter.unusedSimpArgs false
section
variable {σ : Type} {g : Gr} {T : ByteArray} {tb tO N : Nat} {rv tv : Value} {J : σ → World → Prop} {X : World → Nat → Prop} {I : σ → Prop} {F : Ex → Nat → σ → Rg σ}
set_option maxRecDepth 20000 in
set_option maxHeartbeats 4000000 in
theorem allOf_any (E : Envx σ T tb tO N rv tv J X) (hT : T.size ≤ 60) (hTry : TryC g T tb tO N J X I F 74) (hB : Bnd g T.size I F) (e : Ex) (he : e.Ok (IsRule g)) (p : Nat) (x : σ) (r : Option (Ot × σ)) (w : World) (hin : e.In N w) (hp : p ≤ T.size) (hJ : J x w) (hI : I x) (hr : seqG F e.kids p x = some r) :
    Calls Try.prog 131 #[.pointer (some ⟨tb, tO, none⟩), .slice e.a e.kids.length e.c, .int .i64 (p : Int)] w (TryR J X p r w) := by
  have HM : Hid (MO N J X w w.heap.size x _ _) := MO.new E hJ #[.bool false, .int .i64 0]
  have hlen := hin.len
  have HR : Hid (TryC g T tb tO N J X I F 74 ∧ Bnd g T.size I F ∧ e.Ok (IsRule g) ∧ e.In N w ∧ J x w ∧ seqG F e.kids p x = some r ∧ I x) := ⟨hTry, hB, he, hin, hJ, hr, hI⟩
  clear hTry hB he hin hJ hr hI
  go_enter Try.func131, Try.ntmps131
  go_wp2_with fail
  go_loopw [7, 12] (fun a b wr => ∃ (i d : Nat) (y : σ), a = .int .i64 (d : Int) ∧ b = .int .i64 (i : Int) ∧ i ≤ e.kids.length ∧ Hid (MO N J X w w.heap.size y #[.bool false, .int .i64 0] wr) ∧ p + d ≤ T.size ∧ Hid (I y ∧ seqG F (e.kids.drop i) (p + d) y = some r)) (fun _ b _ => e.kids.length - (intOf b).toNat)
  case atStart => exact ⟨0, 0, x, rfl, rfl, Nat.zero_le _, HM, hp, HR.out.2.2.2.2.2.2, HR.out.2.2.2.2.2.1⟩
  case round =>
    clear HM
    obtain ⟨i, d, y, rfl, rfl, hil, HM, hpd, HQ⟩ := hrel
    have ht := fun W => took_any (d : Int) W
    have hf := fun W => failed_any W
    by_cases hend : i = e.kids.length
    · have g1 : decide (i < e.kids.length) = false := by simp; omega
      have hre : r = some (some (p + d), y) := by
        have := HQ.out.2
        rw [hend, List.drop_length, seqG] at this
        exact (Option.some.inj this).symm
      subst hre
      unfold TryR
      simp only [oval_add]
      go_wp2_with (first
        | (go_at_call 128; refine (ht _).mono ?_; rintro e1 W1 ⟨rfl, hb1⟩; have HM1 : Hid _ := HM.out.below E hb1; clear hb1)
        | (refine wpList_store_box rfl 29 _ _ rfl w.heap.size _ rfl rfl _ HM1.out.o.box Try.info29 rfl (by simp [Value.oneCell']) ?_; intro w5 hx5 hg5; have hc := hx5.cell; have HM5 : Hid _ := HM1.out.store E hx5 hg5))
      exact bodyPost_ret (v := oval p (some (p + d))) (by rw [oval_add]; simp [results, Try.results131, go_sem, hc]) rfl ⟨rfl, HM5.out.m.kp, HM5.out.m.j⟩
    · have hlt : i < e.kids.length := by omega
      have g1 : decide (i < e.kids.length) = true := by simpa using hlt
      clear hend
      obtain ⟨u, hu⟩ : ∃ u, e.kids[i]? = some u := ⟨_, List.getElem?_eq_getElem hlt⟩
      have hlow := HM.out.low E HR.out.2.2.2.2.1
      obtain ⟨kb, ko, hka, hnk⟩ := Nd0.kid (HR.out.2.2.2.1.below hlow) hu
      have hsq : Hid (seqG F (u :: e.kids.drop (i + 1)) (p + d) y = some r) := by have := HQ.out.2; rw [drop_at e.kids i u hu] at this; exact this
      have hko := HR.out.2.2.1.kid (List.mem_of_getElem? hu)
      have hct := fun rr h => HR.out.1 u (p + d) y rr wr kb (ko + i * 7) hko hnk hpd HM.out.m.j HQ.out.1 h
      have hbd := fun o z h => HR.out.2.1 u (p + d) y o z hko hpd HQ.out.1 h
      rw [show (((p + d : Nat)) : Int) = (p : Int) + (d : Int) from by omega] at hct
      rw [hka]
      cases hF : F u (p + d) y with
      | none => exfalso; have := hsq.out; rw [seqG, hF] at this; cases this
      | some v =>
        have hcl := hct v hF
        clear hct
        match v, hF, hcl with
        | none, hF, hcl =>
          have hre : r = none := by have := hsq.out; rw [seqG, hF] at this; exact (Option.some.inj this).symm
          subst hre
          unfold TryR thrownV at hcl ⊢
          simp only at hcl ⊢
          clear hF hbd
          go_wp2_with (go_at_call 74; refine hcl.mono ?_; rintro e1 W1 ⟨rfl, hk1, hj1⟩)
          exact ⟨rfl, rfl, HM.out.m.kp.trans hk1, hj1⟩
        | some (none, z), hF, hcl =>
          have hre : r = some (none, z) := by have := hsq.out; rw [seqG, hF] at this; exact (Option.some.inj this).symm
          subst hre
          unfold TryR at hcl ⊢
          simp only [oval_none] at hcl ⊢
          clear hF hbd ht
          go_wp2_with (first
            | (go_at_call 74; refine hcl.mono ?_; rintro e1 W1 ⟨rfl, hk1, hj1⟩; have HM0 : Hid _ := (HM.out.call hk1 hj1).alloc E (.cells #[.bool false, .int .i64 0] 29); clear hk1 hj1)
            | (go_at_call 146; refine (hf _).mono ?_; rintro e1 W2 ⟨rfl, hb1⟩; have HM1 : Hid _ := HM0.out.below E hb1; clear hb1)
            | (refine wpList_store_box rfl 29 _ _ rfl w.heap.size _ rfl rfl _ HM1.out.o.box Try.info29 rfl (by simp [Value.oneCell']) ?_; intro w5 hx5 hg5; have hc := hx5.cell; have HM5 : Hid _ := HM1.out.store E hx5 hg5))
          exact bodyPost_ret (by simp [results, Try.results131, go_sem, hc]) rfl ⟨rfl, HM5.out.m.kp, HM5.out.m.j⟩
        | some (some q, z), hF, hcl =>
          obtain ⟨hIz, hq⟩ := hbd _ _ hF
          obtain ⟨hq1, hq2⟩ := hq q rfl
          obtain ⟨d2, rfl⟩ : ∃ d2, q = p + d + d2 := ⟨q - (p + d), by omega⟩
          have HQ2 : Hid (I z ∧ seqG F (e.kids.drop (i + 1)) (p + (d + d2)) z = some r) := ⟨hIz, by have := hsq.out; rw [seqG, hF] at this; rw [← Nat.add_assoc]; exact this⟩
          have hd2 : p + (d + d2) ≤ T.size := by omega
          unfold TryR at hcl
          simp only [oval_add] at hcl
          clear hF hbd ht hf hq hq1 hq2 hIz
          go_wp2_with (go_at_call 74; refine hcl.mono ?_; rintro e1 W1 ⟨rfl, hk1, hj1⟩; have HM0 : Hid _ := (HM.out.call hk1 hj1).alloc E (.cells #[.bool true, .int .i64 (d2 : Int)] 29); clear hk1 hj1)
          exact ⟨⟨i + 1, d + d2, z, by go_num, by go_num, by omega, HM0, hd2, HQ2⟩, by simp [intOf]; omega⟩
set_option maxRecDepth 20000 in
set_option maxHeartbeats 4000000 in
theorem firstOf_any (E : Envx σ T tb tO N rv tv J X) (hT : T.size ≤ 60) (hTry : TryC g T tb tO N J X I F 74) (hB : Bnd g T.size I F) (e : Ex) (he : e.Ok (IsRule g)) (p : Nat) (x : σ) (r : Option (Ot × σ)) (w : World) (hin : e.In N w) (hp : p ≤ T.size) (hJ : J x w) (hI : I x) (hr : altG F e.kids p x = some r) :
    Calls Try.prog 132 #[.pointer (some ⟨tb, tO, none⟩), .slice e.a e.kids.length e.c, .int .i64 (p : Int)] w (TryR J X p r w) := by
  have HM : Hid (MO N J X w w.heap.size x _ _) := MO.new E hJ #[.bool false, .int .i64 0]
  have hlen := hin.len
  have HR : Hid (TryC g T tb tO N J X I F 74 ∧ Bnd g T.size I F ∧ e.Ok (IsRule g) ∧ e.In N w ∧ J x w ∧ altG F e.kids p x = some r ∧ I x) := ⟨hTry, hB, he, hin, hJ, hr, hI⟩
  clear hTry hB he hin hJ hr hI
  go_enter Try.func132, Try.ntmps132
  go_wp2_with fail
  go_loopw [11] (fun b wr => ∃ (i : Nat) (y : σ), b = .int .i64 (i : Int) ∧ i ≤ e.kids.length ∧ Hid (MO N J X w w.heap.size y #[.bool false, .int .i64 0] wr) ∧ Hid (I y ∧ altG F (e.kids.drop i) p y = some r)) (fun b _ => e.kids.length - (intOf b).toNat)
  case atStart => exact ⟨0, x, rfl, Nat.zero_le _, HM, HR.out.2.2.2.2.2.2, HR.out.2.2.2.2.2.1⟩
  case round =>
    clear HM
    obtain ⟨i, y, rfl, hil, HM, HQ⟩ := hrel
    have hf := fun W => failed_any W
    by_cases hend : i = e.kids.length
    · have g1 : decide (i < e.kids.length) = false := by simp; omega
      have hre : r = some (none, y) := by
        have := HQ.out.2
        rw [hend, List.drop_length, altG] at this
        exact (Option.some.inj this).symm
      subst hre
      go_wp2_with (first
        | (go_at_call 146; refine (hf _).mono ?_; rintro e1 W1 ⟨rfl, hb1⟩; have HM1 : Hid _ := HM.out.below E hb1; clear hb1)
        | (refine wpList_store_box rfl 29 _ _ rfl w.heap.size _ rfl rfl _ HM1.out.o.box Try.info29 rfl (by simp [Value.oneCell']) ?_; intro w5 hx5 hg5; have hc := hx5.cell; have HM5 : Hid _ := HM1.out.store E hx5 hg5))
      exact bodyPost_ret (v := oval p none) (by rw [oval_none]; simp [results, Try.results132, go_sem, hc]) rfl ⟨rfl, HM5.out.m.kp, HM5.out.m.j⟩
    · have hlt : i < e.kids.length := by omega
      have g1 : decide (i < e.kids.length) = true := by simpa using hlt
      clear hend
      obtain ⟨u, hu⟩ : ∃ u, e.kids[i]? = some u := ⟨_, List.getElem?_eq_getElem hlt⟩
      have hlow := HM.out.low E HR.out.2.2.2.2.1
      obtain ⟨kb, ko, hka, hnk⟩ := Nd0.kid (HR.out.2.2.2.1.below hlow) hu
      have hsq : Hid (altG F (u :: e.kids.drop (i + 1)) p y = some r) := by have := HQ.out.2; rw [drop_at e.kids i u hu] at this; exact this
      have hko := HR.out.2.2.1.kid (List.mem_of_getElem? hu)
      have hct := fun rr h => HR.out.1 u p y rr wr kb (ko + i * 7) hko hnk hp HM.out.m.j HQ.out.1 h
      have hbd := fun o z h => HR.out.2.1 u p y o z hko hp HQ.out.1 h
      rw [hka]
      cases hF : F u p y with
      | none => exfalso; have := hsq.out; rw [altG, hF] at this; cases this
      | some v =>
        have hcl := hct v hF
        clear hct
        match v, hF, hcl with
        | none, hF, hcl =>
          have hre : r = none := by have := hsq.out; rw [altG, hF] at this; exact (Option.some.inj this).symm
          subst hre
          unfold TryR thrownV at hcl ⊢
          simp only at hcl ⊢
          clear hF hbd
          go_wp2_with (go_at_call 74; refine hcl.mono ?_; rintro e1 W1 ⟨rfl, hk1, hj1⟩)
          exact ⟨rfl, rfl, HM.out.m.kp.trans hk1, hj1⟩
        | some (some q, z), hF, hcl =>
          have hre : r = some (some q, z) := by have := hsq.out; rw [altG, hF] at this; exact (Option.some.inj this).symm
          subst hre
          unfold TryR at hcl ⊢
          simp only [oval_some] at hcl ⊢
          generalize hdq : (q : Int) - (p : Int) = dq at hcl
          clear hF hbd
          go_wp2_with (first
            | (go_at_call 74; refine hcl.mono ?_; rintro e1 W1 ⟨rfl, hk1, hj1⟩; have HM1 : Hid _ := (HM.out.call hk1 hj1).alloc E (.cells #[.bool true, .int .i64 dq] 29); clear hk1 hj1)
            | (refine wpList_store_box rfl 29 _ _ rfl w.heap.size _ rfl rfl _ HM1.out.o.box Try.info29 rfl (by simp [Value.oneCell']) ?_; intro w5 hx5 hg5; have hc := hx5.cell; have HM5 : Hid _ := HM1.out.store E hx5 hg5))
          exact bodyPost_ret (by simp [results, Try.results132, go_sem, hc]) rfl ⟨rfl, HM5.out.m.kp, HM5.out.m.j⟩
        | some (none, z), hF, hcl =>
          obtain ⟨hIz, -⟩ := hbd _ _ hF
          have HQ2 : Hid (I z ∧ altG F (e.kids.drop (i + 1)) p z = some r) := ⟨hIz, by have := hsq.out; rw [altG, hF] at this; exact this⟩
          unfold TryR at hcl
          simp only [oval_none] at hcl
          clear hF hbd hf hIz
          go_wp2_with (go_at_call 74; refine hcl.mono ?_; rintro e1 W1 ⟨rfl, hk1, hj1⟩; have HM0 : Hid _ := (HM.out.call hk1 hj1).alloc E (.cells #[.bool false, .int .i64 0] 29); clear hk1 hj1)
          exact ⟨⟨i + 1, z, by go_num, by omega, HM0, HQ2⟩, by simp [intOf]; omega⟩
theorem MO.put (E : Envx σ T tb tO N rv tv J X) {x : σ} {w0 W W' : World} {B B' : Nat} {cs cs0 cs' : Array Value} (h : MO N J X w0 B x cs W) (h' : Obx X w0 W B' cs0) (hne : B ≠ B') (hb : BoxN W' B' 29 cs') (hg : W.grownBy W' (some B')) : MO N J X w0 B x cs W' ∧ Obx X w0 W' B' cs' :=
  ⟨⟨(h.m.store E h.n h' hb hg).1, h.o.other E h.m h.n h' hne hg, h.n⟩, (h.m.store E h.n h' hb hg).2⟩
/-- What comes of u again and again, where o came of it at p. -/
def goG (F : Ex → Nat → σ → Rg σ) (u : Ex) (m p : Nat) (o : Ot) (x : σ) : Rg σ := match o with
  | none => some (some (some p, x))
  | some q => starG F u m q x
theorem starG_go (F : Ex → Nat → σ → Rg σ) (u : Ex) (m p : Nat) (x : σ) : starG F u (m + 1) p x = (match F u p x with
  | none => none
  | some none => some none
  | some (some (o, y)) => goG F u m p o y) := by
  rw [starG]
  match F u p x with
  | none => rfl
  | some none => rfl
  | some (some (none, y)) => rfl
  | some (some (some q, y)) => rfl
/-- In the middle of goOn. -/
structure Gw (J : σ → World → Prop) (X : World → Nat → Prop) (I : σ → Prop) (F : Ex → Nat → σ → Rg σ) (N len : Nat) (u : Ex) (r : Option (Ot × σ)) (w : World) (p d gk : Nat) (o : Ot) (y : σ) (B : Nat) (wr : World) : Prop where
  mo : MO N J X w (w.heap.size + 1) y #[.bool false, .int .i64 0] wr
  ob : Obx X w wr B (ocells (p + d) o)
  ne : w.heap.size + 1 ≠ B
  i : I y
  g : goG F u gk (p + d) o y = some r
  b : ∀ q, o = some q → p + d ≤ q ∧ q ≤ len
set_option maxRecDepth 20000 in
set_option maxHeartbeats 4000000 in
theorem goOn_any (E : Envx σ T tb tO N rv tv J X) (hT : T.size ≤ 60) (hTry : TryC g T tb tO N J X I F 74) (hB : Bnd g T.size I F) (u : Ex) (hu : u.Ok (IsRule g)) (nb no : Nat) (p m : Nat) (o : Ot) (x : σ) (r : Option (Ot × σ)) (w : World) (hn : Nd0 N w u nb no) (hp : p ≤ T.size) (ho : ∀ q, o = some q → p ≤ q ∧ q ≤ T.size) (hJ : J x w) (hI : I x)
    (hr : goG F u m p o x = some r) :
    Calls Try.prog 147 #[.pointer (some ⟨tb, tO, none⟩), .pointer (some ⟨nb, no, none⟩), .int .i64 (p : Int), oval p o] w (TryR J X p r w) := by
  have HG : Hid (Gw J X I F N T.size u r w p 0 m o x (w.heap.size + 1 + 1) (((w.alloc (.cells (ocells p o) 29)).alloc (.cells #[.bool false, .int .i64 0] 29)).alloc (.cells (ocells p o) 29))) := by
    have h1 := (Mdx.start (N := N) hJ).alloc E (.cells (ocells p o) 29)
    have h2 := Obx.new E h1 #[.bool false, .int .i64 0]
    have h3 := h1.alloc E (.cells #[.bool false, .int .i64 0] 29)
    rw [World.size_alloc] at h2
    have h4 := Obx.new E h3 (ocells p o)
    rw [World.size_alloc, World.size_alloc] at h4
    exact ⟨⟨h3.alloc E _, h2.alloc E h3 _, E.lt hJ⟩, h4, by omega, hI, hr, ho⟩
  have HR : Hid (TryC g T tb tO N J X I F 74 ∧ Bnd g T.size I F ∧ u.Ok (IsRule g) ∧ Nd0 N w u nb no ∧ J x w) := ⟨hTry, hB, hu, hn, hJ⟩
  unfold oval
  obtain ⟨z, n, hzn⟩ := oc_form p o
  rw [hzn] at HG ⊢
  clear hTry hB hu hn hJ hzn hI hr ho
  go_enter Try.func147, Try.ntmps147
  go_wp2_with fail
  go_loopg [9, 10] m (fun gk a b wr => ∃ (d : Nat) (o : Ot) (y : σ) (B : Nat), a = .int .i64 (d : Int) ∧ b = .pointer (some ⟨B, 0, none⟩) ∧ p + d ≤ T.size ∧ Hid (Gw J X I F N T.size u r w p d gk o y B wr))
  case atStart => exact ⟨0, o, x, w.heap.size + 1 + 1, rfl, rfl, hp, HG⟩
  case round =>
    clear HG
    obtain ⟨d, o, y, B, rfl, rfl, hpd, HG⟩ := hrel
    have ht := fun W => took_any (d : Int) W
    have hB0 := HG.out.ob.box.cell 0
    have hB1 := HG.out.ob.box.cell 1
    cases o with
    | none =>
      have hre : r = some (some (p + d), y) := (Option.some.inj HG.out.g).symm
      subst hre
      unfold ocells at hB0 hB1
      simp only [List.getElem?_toArray, List.getElem?_cons_zero, List.getElem?_cons_succ] at hB0 hB1
      have HM : Hid _ := HG.out.mo
      go_wp2_with (first
        | (go_at_call 128; refine (ht _).mono ?_; rintro e1 W1 ⟨rfl, hb1⟩; have HM1 : Hid _ := HM.out.below E hb1; clear hb1)
        | (refine wpList_store_box rfl 29 _ _ rfl (w.heap.size + 1) _ rfl rfl _ HM1.out.o.box Try.info29 rfl (by simp [Value.oneCell']) ?_; intro w5 hx5 hg5; have hc := hx5.cell; have HM5 : Hid _ := HM1.out.store E hx5 hg5))
      exact bodyPost_ret (v := oval p (some (p + d))) (by rw [oval_add]; simp [results, Try.results147, go_sem, hc]) rfl ⟨rfl, HM5.out.m.kp, HM5.out.m.j⟩
    | some q =>
      obtain ⟨hq1, hq2⟩ := HG.out.b q rfl
      obtain ⟨d2, rfl⟩ : ∃ d2, q = p + d + d2 := ⟨q - (p + d), by omega⟩
      have hco : ocells (p + d) (some (p + d + d2)) = #[.bool true, .int .i64 (d2 : Int)] := by
        have := oval_add (p + d) d2
        unfold oval at this
        exact Value.agg.inj this
      rw [hco] at hB0 hB1
      simp only [List.getElem?_toArray, List.getElem?_cons_zero, List.getElem?_cons_succ] at hB0 hB1
      have hgg : starG F u gk (p + d + d2) y = some r := HG.out.g
      cases gk with
      | zero => exfalso; rw [starG] at hgg; cases hgg
      | succ gk =>
        rw [starG_go, show p + d + d2 = p + (d + d2) from by omega] at hgg
        have hMA := HG.out.mo.alloc E (.cells #[.bool true, .int .i64 (d2 : Int)] 29)
        have hlow := hMA.low E HR.out.2.2.2.2
        have hpd2 : p + (d + d2) ≤ T.size := by omega
        have hct := fun rr h => HR.out.1 u (p + (d + d2)) y rr (wr.alloc (.cells #[.bool true, .int .i64 (d2 : Int)] 29)) nb no HR.out.2.2.1 (HR.out.2.2.2.1.below hlow) hpd2 hMA.m.j HG.out.i h
        have hbd := fun o z h => HR.out.2.1 u (p + (d + d2)) y o z HR.out.2.2.1 hpd2 HG.out.i h
        rw [show (((p + (d + d2) : Nat)) : Int) = (p : Int) + ((d : Int) + (d2 : Int)) from by omega] at hct
        have HMA : Hid (MO N J X w (w.heap.size + 1) y _ _ ∧ Obx X w _ wr.heap.size _ ∧ w.heap.size + 1 ≠ wr.heap.size) := ⟨hMA, Obx.new E HG.out.mo.m #[.bool true, .int .i64 (d2 : Int)], by have := HG.out.mo.o.box.lt; omega⟩
        cases hF : F u (p + (d + d2)) y with
        | none => exfalso; rw [hF] at hgg; cases hgg
        | some v =>
          have hcl := hct v hF
          rw [hF] at hgg
          clear hct hMA hlow hq1 hq2
          match v, hF, hcl, hgg with
          | none, hF, hcl, hgg =>
            have hre : r = none := (Option.some.inj hgg).symm
            subst hre
            unfold TryR thrownV at hcl ⊢
            simp only at hcl ⊢
            clear hF hbd hgg
            go_wp2_with (go_at_call 74; refine hcl.mono ?_; rintro e1 W1 ⟨rfl, hk1, hj1⟩)
            exact ⟨rfl, rfl, HMA.out.1.m.kp.trans hk1, hj1⟩
          | some (o2, z), hF, hcl, hgg =>
            obtain ⟨hIz, hbb⟩ := hbd _ _ hF
            have HGG : Hid (goG F u gk (p + (d + d2)) o2 z = some r ∧ I z ∧ ∀ q, o2 = some q → p + (d + d2) ≤ q ∧ q ≤ T.size) := ⟨hgg, hIz, hbb⟩
            unfold TryR at hcl
            simp only at hcl
            unfold oval at hcl
            obtain ⟨z2, n2, hzn⟩ := oc_form (p + (d + d2)) o2
            have HZN : Hid (ocells (p + (d + d2)) o2 = #[.bool z2, .int .i64 n2]) := hzn
            rw [hzn] at hcl
            clear hF hbd hgg hIz hbb hzn
            go_wp2_with (first
              | (go_at_call 74; refine hcl.mono ?_; rintro e1 W1 ⟨rfl, hk1, hj1⟩; have HM2 : Hid (MO N J X w (w.heap.size + 1) z _ W1 ∧ Obx X w W1 wr.heap.size _) := ⟨HMA.out.1.call hk1 hj1, HMA.out.2.1.call hk1⟩; clear hk1 hj1)
              | (refine wpList_store_box rfl 29 _ _ rfl wr.heap.size _ rfl rfl _ HM2.out.2.box Try.info29 rfl (by simp [Value.oneCell']) ?_; intro w5 hx5 hg5; have HM5 : Hid _ := HM2.out.1.put E HM2.out.2 HMA.out.2.2 hx5 hg5; clear hx5 hg5))
            go_roundg gk
            case measure => omega
            case rel => exact ⟨d + d2, o2, z, wr.heap.size, by go_num, rfl, hpd2, HM5.out.1, by rw [HZN.out]; exact HM5.out.2, HMA.out.2.2, HGG.out.2.1, HGG.out.1, HGG.out.2.2⟩
end
end Go.Proofs.Ytokdaapmejccbaa
