import Derived.Test.YtokdaapmejccbaaXPkC
import Derived.Carry
import Derived.Test.YtokdaapmejccbaaXOneG
import Derived.Test.YtokdaapmejccbaaXSchA
namespace Go.Proofs.Ytokdaapmejccbaa
open Go.RowKit
set_option linter.unusedVariables false
set_option linter.unusedSimpArgs false
/-- A rule at a place. -/
theorem rule47 (g : Gr) (hB : BOk g) (T : ByteArray) (hT : T.size ≤ 60) (tv : Value) (P : Pm) (N : Nat) (hil : g.rules.length ≤ 1000000) {F : Ex → Nat → List St → Rg (List St)} (hTry : TryC g T P.m 1 N (JM g T tv P N) (XM P) (InT g T.size) F 74)
    (i : Nat) (r0 : ByteArray × Ex) (hr0 : g.rules[i]? = some r0) (p : Nat) (hp : p ≤ T.size) (L : List St) (w : World) (hJ : JM g T tv P N L w) (hI : InT g T.size L) (r : Option (Ot × List St)) (h : ruleK F i r0.2 p L = some r) :
    Calls Try.prog 47 #[.pointer (some ⟨P.m, 0, none⟩), .int .i64 (i : Int), .int .i64 (p : Int)] w (TryR (JM g T tv P N) (XM P) p r w) := by
  have hi := (List.getElem?_eq_some_iff.1 hr0).1
  have hok := hB r0 (List.mem_of_getElem? hr0)
  unfold ruleK at h
  cases hm : memo L i p with
  | some o =>
    rw [hm] at h
    cases h
    exact rule_hit g T hT tv P N i p hi hil hp L w hJ o hm
  | none =>
    rw [hm] at h
    simp only at h
    match hF : F r0.2 p L with
    | none => rw [hF] at h; cases h
    | some none =>
      rw [hF] at h
      cases h
      exact rule_thrown g T hT tv P N i p hi hil hp L w hJ r0 hr0 hm fun nb no W hb hn hj => hTry r0.2 p L none W nb no hok hn hp hj hI hF
    | some (some (o, M)) =>
      rw [hF] at h
      simp only at h
      split at h
      · rename_i hR
        cases h
        exact rule_come g T hT tv P N i p hi hil hp L w hJ r0 hr0 hm o M hR fun nb no W hb hn hj => hTry r0.2 p L _ W nb no hok hn hp hj hI hF
      · cases h
set_option maxRecDepth 20000 in
set_option maxHeartbeats 4000000 in
/-- .. by its name. -/
theorem named_does (g : Gr) (hB : BOk g) (T : ByteArray) (hT : T.size ≤ 60) (tv : Value) (P : Pm) (N : Nat) (hil : g.rules.length ≤ 1000000) (F : Ex → Nat → List St → Rg (List St)) (hTry : TryC g T P.m 1 N (JM g T tv P N) (XM P) (InT g T.size) F 74) :
    RuleC g T N (JM g T tv P N) (XM P) (InT g T.size) (callK g F) 80 #[.pointer (some ⟨P.m, 0, none⟩)] #[] := fun t p x r w ht hp hJ hI h => by
  have E := envM g T tv P N
  have HM : Hid (MO N (JM g T tv P N) (XM P) w w.heap.size x _ _) := MO.new E hJ #[.bool false, .int .i64 0]
  obtain ⟨i, r0, hi, hr0, hb⟩ := body_of ht
  unfold callK at h
  rw [hb, hi] at h
  simp only [Int.toNat_natCast] at h
  have hfd := find_any g t (w.alloc (.cells #[.bool false, .int .i64 0] 29)) (by
    obtain ⟨sv, D, h1⟩ := HM.out.m.j
    exact h1.gi.mono h1.lt)
  rw [gval_eq, hi] at hfd
  have c0 : (w.alloc (.cells #[.bool false, .int .i64 0] 29)).cell? ⟨P.m, 0, none⟩ = some (.slice g.a g.rules.length g.c) := by
    obtain ⟨sv, D, h1⟩ := HM.out.m.j
    exact h1.bm.cell 0
  have HT : Hid (∀ W, Below (w.alloc (.cells #[.bool false, .int .i64 0] 29)).heap.size (w.alloc (.cells #[.bool false, .int .i64 0] 29)) W → _) := fun W hb2 => rule47 g hB T hT tv P N hil hTry i r0 hr0 p hp x W (HM.out.below E hb2).m.j hI r h
  clear hb hi h hTry hJ hr0
  obtain ⟨pm, pk⟩ := P
  show Calls Try.prog 80 #[.pointer (some ⟨pm, 0, none⟩), .string t, .int .i64 (p : Int)] w (TryR (JM g T tv ⟨pm, pk⟩ N) (XM ⟨pm, pk⟩) p r w)
  cases r with
  | none =>
    unfold TryR thrownV at HT ⊢
    simp only at HT ⊢
    go_enter Try.func80, Try.ntmps80
    go_wp2_with (first
      | (go_at_call 75; refine hfd.mono ?_; rintro e0 W2 ⟨rfl, hb2⟩; have HM2 : Hid _ := HM.out.below E hb2; have hc2 := HT.out W2 hb2; clear hb2)
      | (go_at_call 47; refine hc2.mono ?_; rintro e1 W3 ⟨rfl, hk3, hj3⟩))
    exact ⟨rfl, rfl, HM2.out.m.kp.trans hk3, hj3⟩
  | some r =>
    obtain ⟨o, y⟩ := r
    unfold TryR at HT ⊢
    simp only at HT ⊢
    unfold oval at HT ⊢
    obtain ⟨z, n, hzn⟩ := oc_form p o
    rw [hzn] at HT ⊢
    go_enter Try.func80, Try.ntmps80
    go_wp2_with (first
      | (go_at_call 75; refine hfd.mono ?_; rintro e0 W2 ⟨rfl, hb2⟩; have HM2 : Hid _ := HM.out.below E hb2; have hc2 := HT.out W2 hb2; clear hb2)
      | (go_at_call 47; refine hc2.mono ?_; rintro e1 W3 ⟨rfl, hk3, hj3⟩; have HM3 : Hid _ := HM2.out.call hk3 hj3; clear hk3 hj3)
      | (refine wpList_store_box rfl 29 _ _ rfl w.heap.size _ rfl rfl _ HM3.out.o.box Try.info29 rfl (by simp [Value.oneCell']) ?_; intro w5 hx5 hg5; have hc := hx5.cell; have HM5 : Hid _ := HM3.out.store E hx5 hg5))
    exact bodyPost_ret (by simp [results, Try.results80, go_sem, hc]) rfl ⟨rfl, HM5.out.m.kp, HM5.out.m.j⟩
theorem run_call80 (av : Array Value) (W : World) : Sem.run Try.prog (callFunc 80 av) W = .ok (.enter 80 av) W := by kernel_rfl
/-- The trier with a memory. -/
theorem tryM (g : Gr) (hB : BOk g) (T : ByteArray) (hT : T.size ≤ 60) (P : Pm) (N : Nat) (hil : g.rules.length ≤ 1000000) : ∀ f, TryC g T P.m 1 N (JM g T .nilFunc P N) (XM P) (InT g T.size) (tryG (callK g) noTold T.data.toList f) 74
  | 0 => fun e p x r W nb no _ _ _ _ _ h => by cases h
  | f + 1 => fun e p x r W nb no he hn hp hJ hI h => by
    have E := envM g T .nilFunc P N
    have ih := tryM g hB T hT P N hil f
    rw [tryG, toldG_no] at h
    refine try_nil E rfl e p x r W nb no hJ fun W2 hb hj => ?_
    exact comes_all E hT 80 #[.pointer (some ⟨P.m, 0, none⟩)] #[] rfl (fun av W => run_call80 av W) ih (tryK_bnd hB T f) (C := callK g) (named_does g hB T hT .nilFunc P N hil _ ih) f e p x r W2 nb no he (hn.below hb) hp hj hI h
end Go.Proofs.Ytokdaapmejccbaa
namespace Go.Proofs.Ytokdaapmejccbaa
open Go.RowKit
set_option linter.unusedVariables false
set_option linter.unusedSimpArgs false
theorem Mp.alloc {k : Nat} {L : List St} {W : World} {D : DataW Unit} (h : Mp k L W D) (o : Obj) : Mp k L (W.alloc o) D := ⟨h.own.alloc o, h.has, h.at_⟩
set_option maxRecDepth 20000 in
set_option maxHeartbeats 4000000 in
theorem newMem (g : Gr) (T : ByteArray) (w : World) (hin : g.In w.heap.size w) :
    Calls Try.prog 46 #[g.val, .string T, .nilFunc] w fun r W' => ∃ P : Pm, r = .returned (.pointer (some ⟨P.m, 0, none⟩)) ∧ JM g T .nilFunc P w.heap.size [] W' ∧ Below w.heap.size w W' := by
  have hmm := @run_makeMap Try.prog
  have HI : Hid (g.In w.heap.size w) := hin
  have hmf : ∀ (fn : Fn) (first cap : Array Value) (w : World), (Instr.makeFunc fn first cap).run Try.prog w = .ok (.func fn first cap) w := fun _ _ _ _ => rfl
  rw [gval_eq]
  clear hin
  go_enter Try.func46, Try.ntmps46
  go_wp2_with fail
  have hb : Below w.heap.size w ((w.alloc (.cells #[.slice g.a g.rules.length g.c] 24)).alloc (.map #[] 0)) := ((Below.refl _ w).alloc (Nat.le_refl _) _).alloc (by simp) _
  have h1 := (Mp.start (w.alloc (.cells #[.slice g.a g.rules.length g.c] 24))).alloc (.cells (mmc g T ⟨w.heap.size + 1 + 1, w.heap.size + 1⟩ .nilFunc (.slice none 0 0)) 98)
  have h2 := BoxN.new ((w.alloc (.cells #[.slice g.a g.rules.length g.c] 24)).alloc (.map #[] 0)) 98 (mmc g T ⟨w.heap.size + 1 + 1, w.heap.size + 1⟩ .nilFunc (.slice none 0 0))
  have hb3 := hb.alloc (by simp; omega) (.cells (mmc g T ⟨w.heap.size + 1 + 1, w.heap.size + 1⟩ .nilFunc (.slice none 0 0)) 98)
  simp only [World.size_alloc] at h1 h2
  refine bodyPost_ret (by simp [results, Try.results46, go_sem]) rfl ⟨⟨w.heap.size + 1 + 1, w.heap.size + 1⟩, rfl, ⟨.slice none 0 0, .map [], HI.out.below hb3, h2, h1, World.ownsRow_nil _ _ _ _, fun b hb => by simp [Value.ownBlock] at hb, ⟨by show w.heap.size ≤ w.heap.size + 1 + 1; omega, by show w.heap.size ≤ w.heap.size + 1; omega, by show w.heap.size + 1 + 1 ≠ w.heap.size + 1; omega⟩, hb3.size⟩, hb3⟩
/-- What comes of a rule at a place, with all that was tried on the way. -/
structure PkS (g : Gr) (T : ByteArray) (i p : Nat) (o : Ot) (L : List St) : Prop where
  ex : ∃ r f n N, g.rules[i]? = some r ∧ ev g T.data.toList f r.2 p = some (o, n) ∧ Adds g T.data.toList [] N n ∧ L = N ++ [((i, p), o)] ∧ ruleK (tryG (callK g) noTold T.data.toList f) i r.2 p [] = some (some (o, L))
  rm : Rm L = true
  few : 1 ≤ L.length ∧ L.length ≤ g.rules.length * (T.size + 1)
  inn : ∀ x ∈ L, x.1.1 < g.rules.length ∧ x.1.2 ≤ T.size ∧ ∃ r m, g.rules[x.1.1]? = some r ∧ Evs g T.data.toList r.2 x.1.2 x.2 m
  bnd : ∀ q, o = some q → p ≤ q ∧ q ≤ T.size
theorem pk_ex {g : Gr} {n9 : Int} (h : W9 g n9 0) (T : ByteArray) (hT : T.size ≤ 60) {i : Nat} {r : ByteArray × Ex} (hr : g.rules[i]? = some r) {p : Nat} (hp : p ≤ T.size) : ∃ o L, PkS g T i p o L := by
  obtain ⟨-, -, hok, hB, lf, hW⟩ := h.ok
  have hm := List.mem_of_getElem? hr
  have hi := (List.getElem?_eq_some_iff.1 hr).1
  obtain ⟨o, n, ⟨f, hf⟩, -⟩ := evs_ex (s := T.data.toList) hW (hB r hm) (hW.nolp r hm) (p := p) hp
  obtain ⟨N, hN, hA, hbd⟩ := evM_of hB (s := T.data.toList) hW.may.1 f r.2 (hB r hm) p o n [] hp hf (fun x hx => by cases hx)
  rw [List.nil_append] at hN
  have hinn : ∀ x ∈ N ++ [((i, p), o)], x.1.1 < g.rules.length ∧ x.1.2 ≤ T.size ∧ ∃ r m, g.rules[x.1.1]? = some r ∧ Evs g T.data.toList r.2 x.1.2 x.2 m := fun x hx => by
    rcases List.mem_append.1 hx with hx | hx
    · obtain ⟨⟨r1, m, h1, h2, h3⟩, h4⟩ := hA.ok x hx
      exact ⟨(List.getElem?_eq_some_iff.1 h1).1, h4, r1, m, h1, h2⟩
    · rw [List.mem_singleton] at hx
      subst hx
      exact ⟨hi, hp, r, n, hr, f, hf⟩
  have hnd : ((N ++ [((i, p), o)]).map (·.1)).Nodup := by
    rw [List.map_append, List.nodup_append]
    refine ⟨hA.once, by simp, fun a ha b hb e => ?_⟩
    obtain ⟨x, hx, rfl⟩ := List.mem_map.1 ha
    simp at hb
    subst hb
    obtain ⟨⟨r1, m, h1, h2, h3⟩, h4⟩ := hA.ok x hx
    rw [e] at h1 h2
    rw [hr] at h1
    cases h1
    obtain ⟨-, h5⟩ := h2.same ⟨f, hf⟩
    omega
  have hfew := once_few g.rules.length T.size _ hnd fun x hx => ⟨(hinn x hx).1, (hinn x hx).2.1⟩
  have hbig : g.rules.length * (T.size + 1) ≤ 10 * 61 := Nat.mul_le_mul hok.most (by omega)
  have hrm : Rm (N ++ [((i, p), o)]) = true := (Rm_iff _).2 ⟨by omega, hnd⟩
  refine ⟨o, N ++ [((i, p), o)], ⟨r, f, n, N, hr, hf, hA, rfl, ?_⟩, hrm, ⟨by simp, hfew⟩, hinn, hbd⟩
  unfold ruleK
  rw [show memo [] i p = none from rfl, tryG_k g T.data.toList f r.2 p [] o N hN (Rm_pre hrm)]
  simp only
  rw [if_pos hrm]
/-- A rule at a place, in a new memory. -/
theorem rule_new {g : Gr} {n9 : Int} (h : W9 g n9 0) (T : ByteArray) (hT : T.size ≤ 60) {i p : Nat} (hp : p ≤ T.size) {o : Ot} {L : List St} (hP : PkS g T i p o L) (P : Pm) (N : Nat) (w : World) (hJ : JM g T .nilFunc P N [] w) :
    Calls Try.prog 47 #[.pointer (some ⟨P.m, 0, none⟩), .int .i64 (i : Int), .int .i64 (p : Int)] w fun e W => e = .returned (oval p o) ∧ JM g T .nilFunc P N L W ∧ Below N w W := by
  obtain ⟨-, -, hok, hB, lf, hW⟩ := h.ok
  obtain ⟨r, f, n, N1, hr, hf, hA, hL, hk⟩ := hP.ex
  have hil : g.rules.length ≤ 1000000 := by have := hok.most; omega
  refine (rule47 g hB T hT .nilFunc P N hil (tryM g hB T hT P N hil f) i r hr p hp [] w hJ (InT.nil _ _) _ hk).mono ?_
  rintro e W ⟨rfl, h2, h3⟩
  exact ⟨rfl, h3, h2.low (envM g T .nilFunc P N) hJ⟩
end Go.Proofs.Ytokdaapmejccbaa
namespace Go.Proofs.Ytokdaapmejccbaa
open Go.RowKit
set_option linter.unusedVariables false
set_option linter.unusedSimpArgs false
theorem ownsRow_base {w : World} {base base' n : Nat} {e : TypeId} {size : Nat} {v : Value} {xs : List Value} (h : w.ownsRow base e size v n xs) (hb : base' ≤ base) : w.ownsRow base' e size v n xs := by
  refine ⟨h.1, ?_⟩
  rcases h.2 with hn | ⟨g, cap, cur, rfl, hb', rest⟩
  · exact .inl hn
  · exact .inr ⟨g, cap, cur, rfl, Nat.le_trans hb hb', rest⟩
/-- Behind a memory: the result's box, the memory's, its steps. -/
structure Rpk (w : World) (N m : Nat) (mm : Array Value) (sv : Value) (L : List St) (cs : Array Value) (W : World) : Prop where
  bq : Bq w (w.heap.size + 1) cs W
  bm : BoxN W m 98 mm
  rw : W.ownsRow N 43 4 sv L.length (stL L)
  ge : w.heap.size + 1 < N ∧ N ≤ m
theorem Rpk.below {w : World} {N m : Nat} {mm : Array Value} {sv : Value} {L : List St} {cs : Array Value} {W W' : World} (h : Rpk w N m mm sv L cs W) (hb : Below W.heap.size W W') : Rpk w N m mm sv L cs W' :=
  ⟨h.bq.step hb, h.bm.below hb h.bm.lt, ownsRow_blk h.rw (fun b hb' => hb.block b (h.rw.lt b hb').2), h.ge⟩
theorem Rpk.alloc {w : World} {N m : Nat} {mm : Array Value} {sv : Value} {L : List St} {cs : Array Value} {W : World} (h : Rpk w N m mm sv L cs W) (o : Obj) : Rpk w N m mm sv L cs (W.alloc o) := h.below ((Below.refl _ _).alloc (Nat.le_refl _) o)
theorem Rpk.drew {w : World} {N m : Nat} {mm : Array Value} {sv : Value} {L : List St} {cs : Array Value} {W : World} (h : Rpk w N m mm sv L cs W) : Rpk w N m mm sv L cs W.drew := h.below (Below.refl _ _).drew
theorem Rpk.fin {w : World} {N m : Nat} {mm : Array Value} {sv : Value} {L : List St} {cs c2 : Array Value} {W W' : World} (h : Rpk w N m mm sv L cs W) (hx : BoxN W' (w.heap.size + 1) 29 c2) (hg : W.grownBy W' (some (w.heap.size + 1))) : Rpk w N m mm sv L c2 W' :=
  ⟨h.bq.fin hx hg, h.bm.kept hg (fun e => by have := Option.some.inj e; have := h.ge; omega), h.rw.kept hg (by
    cases hv : sv.ownBlock with
    | none => exact .inl rfl
    | some k => right; intro e; have := Option.some.inj e; have := (h.rw.lt k hv).1; have := h.ge; omega), h.ge⟩
/-- Behind the rule's call. -/
theorem Rpk.of {g : Gr} {T : ByteArray} {P : Pm} {w W1 W2 W3 : World} {L : List St} {cs : Array Value} (hq : Bq w (w.heap.size + 1) cs W1) (h1 : w.heap.size + 1 < W1.heap.size) (hb2 : Below W1.heap.size W1 W2) (hj : JM g T .nilFunc P W1.heap.size L W3) (hb3 : Below W1.heap.size W2 W3) : ∃ sv, Rpk w W1.heap.size P.m (mmc g T P .nilFunc sv) sv L cs W3 := by
  obtain ⟨sv, D, h⟩ := hj
  exact ⟨sv, hq.step (hb2.trans hb3), h.bm, h.rw, h1, h.ge.1⟩
set_option maxRecDepth 20000 in
set_option maxHeartbeats 8000000 in
theorem packRun_bad (g : Gr) (T : ByteArray) {n9 e : Int} (h : W9 g n9 e) (h0 : lkE T e ≠ 0) (w : World) (hin : g.In w.heap.size w) :
    Calls Try.prog 20 #[g.val, .string T] w fun r W' => r = .returned (.tuple #[oval 0 none, .slice none 0 0, .int .i64 (lkE T e)]) ∧ Below w.heap.size w W' := by
  have hA := ((Below.refl w.heap.size w).alloc (Nat.le_refl _) (.cells #[.slice g.a g.rules.length g.c] 24)).alloc (by simp) (.cells #[.bool false, .int .i64 0] 29)
  have hL := look_any g T h _ (hin.grow hA)
  have hbG := (BoxN.new w 24 #[.slice g.a g.rules.length g.c]).alloc (.cells #[.bool false, .int .i64 0] 29)
  have hbq : Bq w (w.heap.size + 1) #[.bool false, .int .i64 0] ((w.alloc (.cells #[.slice g.a g.rules.length g.c] 24)).alloc (.cells #[.bool false, .int .i64 0] 29)) := by
    have := Bq.new ((Below.refl w.heap.size w).alloc (Nat.le_refl _) (.cells #[.slice g.a g.rules.length g.c] 24))
    rwa [World.size_alloc] at this
  have HQ : Hid (Bq w (w.heap.size + 1) #[.bool false, .int .i64 0] _ ∧ BoxN _ w.heap.size 24 #[.slice g.a g.rules.length g.c]) := ⟨hbq, hbG⟩
  have hin' : ∀ W, Below w.heap.size w W → g.In W.heap.size W := fun W hb => hin.grow hb
  rw [gval_eq] at hL ⊢
  generalize lkE T e = k at *
  have g1 : (k != 0) = true := by simpa using h0
  unfold oval ocells
  clear hin' h hin hbG hbq hA
  go_enter Try.func20, Try.ntmps20
  go_wp2_with (first
    | (go_at_call 14; refine hL.mono ?_; rintro e1 W1 ⟨rfl, hb1⟩; have HB1 : Hid _ := HQ.out.1.step hb1; clear hb1)
    | (refine wpList_store_box rfl 29 _ _ rfl (w.heap.size + 1) _ rfl rfl _ HB1.out.box Try.info29 rfl (by simp [Value.oneCell']) ?_; intro w5 hx5 hg5; have hc := hx5.cell; have HB5 : Hid _ := HB1.out.fin hx5 hg5))
  exact bodyPost_ret (by simp [results, Try.results20, go_sem, hc]) rfl ⟨rfl, HB5.out.bel⟩
set_option maxRecDepth 20000 in
set_option maxHeartbeats 8000000 in
theorem packAt_bad (g : Gr) (T : ByteArray) (i p : Int) {n9 e : Int} (h : W9 g n9 e) (h0 : lkE T e ≠ 0) (w : World) (hin : g.In w.heap.size w) :
    Calls Try.prog 23 #[g.val, .int .i64 i, .string T, .int .i64 p] w fun r W' => r = .returned (.tuple #[oval 0 none, .int .i64 (lkE T e)]) ∧ Below w.heap.size w W' := by
  have hA := ((Below.refl w.heap.size w).alloc (Nat.le_refl _) (.cells #[.slice g.a g.rules.length g.c] 24)).alloc (by simp) (.cells #[.bool false, .int .i64 0] 29)
  have hL := look_any g T h _ (hin.grow hA)
  have hbG := (BoxN.new w 24 #[.slice g.a g.rules.length g.c]).alloc (.cells #[.bool false, .int .i64 0] 29)
  have hbq : Bq w (w.heap.size + 1) #[.bool false, .int .i64 0] ((w.alloc (.cells #[.slice g.a g.rules.length g.c] 24)).alloc (.cells #[.bool false, .int .i64 0] 29)) := by
    have := Bq.new ((Below.refl w.heap.size w).alloc (Nat.le_refl _) (.cells #[.slice g.a g.rules.length g.c] 24))
    rwa [World.size_alloc] at this
  have HQ : Hid (Bq w (w.heap.size + 1) #[.bool false, .int .i64 0] _ ∧ BoxN _ w.heap.size 24 #[.slice g.a g.rules.length g.c]) := ⟨hbq, hbG⟩
  have hin' : ∀ W, Below w.heap.size w W → g.In W.heap.size W := fun W hb => hin.grow hb
  rw [gval_eq] at hL ⊢
  generalize lkE T e = k at *
  have g1 : (k != 0) = true := by simpa using h0
  unfold oval ocells
  clear hin' h hin hbG hbq hA
  go_enter Try.func23, Try.ntmps23
  go_wp2_with (first
    | (go_at_call 14; refine hL.mono ?_; rintro e1 W1 ⟨rfl, hb1⟩; have HB1 : Hid _ := HQ.out.1.step hb1; clear hb1)
    | (refine wpList_store_box rfl 29 _ _ rfl (w.heap.size + 1) _ rfl rfl _ HB1.out.box Try.info29 rfl (by simp [Value.oneCell']) ?_; intro w5 hx5 hg5; have hc := hx5.cell; have HB5 : Hid _ := HB1.out.fin hx5 hg5))
  exact bodyPost_ret (by simp [results, Try.results23, go_sem, hc]) rfl ⟨rfl, HB5.out.bel⟩
set_option maxRecDepth 20000 in
set_option maxHeartbeats 8000000 in
theorem packRun_ok (g : Gr) (T : ByteArray) {n9 e : Int} (h : W9 g n9 e) (h0 : lkE T e = 0) {o : Ot} {L : List St} (hP : PkS g T 0 0 o L) (w : World) (hin : g.In w.heap.size w) :
    Calls Try.prog 20 #[g.val, .string T] w fun r W' => ∃ sv, r = .returned (.tuple #[oval 0 o, sv, .int .i64 0]) ∧ Below w.heap.size w W' ∧ W'.ownsRow w.heap.size 43 4 sv L.length (stL L) := by
  have hA := ((Below.refl w.heap.size w).alloc (Nat.le_refl _) (.cells #[.slice g.a g.rules.length g.c] 24)).alloc (by simp) (.cells #[.bool false, .int .i64 0] 29)
  have hL := look_any g T h _ (hin.grow hA)
  have hbG := (BoxN.new w 24 #[.slice g.a g.rules.length g.c]).alloc (.cells #[.bool false, .int .i64 0] 29)
  have hbq : Bq w (w.heap.size + 1) #[.bool false, .int .i64 0] ((w.alloc (.cells #[.slice g.a g.rules.length g.c] 24)).alloc (.cells #[.bool false, .int .i64 0] 29)) := by
    have := Bq.new ((Below.refl w.heap.size w).alloc (Nat.le_refl _) (.cells #[.slice g.a g.rules.length g.c] 24))
    rwa [World.size_alloc] at this
  have HQ : Hid (Bq w (w.heap.size + 1) #[.bool false, .int .i64 0] _ ∧ BoxN _ w.heap.size 24 #[.slice g.a g.rules.length g.c]) := ⟨hbq, hbG⟩
  have hin' : ∀ W, Below w.heap.size w W → g.In W.heap.size W := fun W hb => hin.grow hb
  rw [gval_eq] at hL ⊢
  rw [h0] at hL
  obtain ⟨rfl, hT⟩ := lkE_zero h0
  have hnm := fun W hb => newMem g T W (hin' W hb)
  have hrl := fun P N W hj => rule_new h T hT (i := 0) (p := 0) (Nat.zero_le _) hP P N W hj
  rw [gval_eq] at hnm
  unfold oval at hrl ⊢
  obtain ⟨z, n, hzn⟩ := oc_form 0 o
  rw [hzn] at hrl ⊢
  rw [show ((0 : Nat) : Int) = 0 from rfl] at hrl
  clear hin' h hin hbG hbq hA h0 hP hzn
  go_enter Try.func20, Try.ntmps20
  go_wp2_with (first
    | (go_at_call 14; refine hL.mono ?_; rintro e1 W1 ⟨rfl, hb1⟩; have HB1 : Hid (Bq w (w.heap.size + 1) _ W1 ∧ BoxN W1 w.heap.size 24 _) := ⟨HQ.out.1.step hb1, HQ.out.2.below hb1 HQ.out.2.lt⟩; have c0 := HB1.out.2.cell 0; simp only [List.getElem?_toArray, List.getElem?_cons_zero] at c0; clear hb1)
    | (go_at_call 46; refine (hnm _ HB1.out.1.bel).mono ?_; rintro e2 W2 ⟨⟨pm, pk⟩, rfl, hj2, hb2⟩; have hcl := hrl ⟨pm, pk⟩ W1.heap.size W2 hj2)
    | (go_at_call 47; refine hcl.mono ?_; rintro e3 W3 ⟨rfl, hj3, hb3⟩; obtain ⟨sv, hRn⟩ := Rpk.of HB1.out.1 HB1.out.1.box.lt hb2 hj3 hb3; have HR : Hid _ := hRn; clear hRn hj2 hj3 hb2 hb3 hcl))
  have HR1 : Hid _ := HR.out.alloc (.cells #[.bool z, .int .i64 n] 29)
  have HR2 : Hid _ := HR1.out.drew
  have HO : Hid (BoxN (W3.alloc (.cells #[.bool z, .int .i64 n] 29)).drew W3.heap.size 29 #[.bool z, .int .i64 n]) := BoxN.new W3 29 #[.bool z, .int .i64 n]
  have hne : W3.heap.size ≠ w.heap.size + 1 := fun e => by have := HR.out.bq.box.lt; omega
  have hnm2 : pm ≠ w.heap.size + 1 := fun e => by have h5 : _ ∧ W1.heap.size ≤ pm := HR.out.ge; have := HB1.out.1.box.lt; omega
  clear HR HR1 HB1 c0 hnm hrl
  generalize W3.alloc (.cells #[.bool z, .int .i64 n] 29) = w4 at *
  generalize W3.heap.size = B4 at *
  refine wp_region_sch (fun W => W.cell? ⟨pm, 5, none⟩ = some sv ∧ W.cell? ⟨B4, 0, none⟩ = some (.bool z) ∧ W.cell? ⟨B4, 1, none⟩ = some (.int .i64 n)) 8 [(0,true),(1,true),(2,true),(3,true),(4,true),(5,false),(6,true),(7,true)] _ (by kernel_rfl) (by kernel_rfl) (fun h => absurd h (by decide)) (by kernel_rfl) rfl (fun c a d v w h => by cases d <;> exact h) ⟨HR2.out.bm.cell 5, HO.out.cell 0, HO.out.cell 1⟩ ?_
  iterate 5
    refine wpSch_read rfl rfl ?_
    apply Exists.intro
    refine ⟨fun W hW => ?_, ?_⟩
    · obtain ⟨r1, r2, r3⟩ := hW
      go_simp
      with_reducible rfl
    show wpSch _ _ _ _ _ _ (Act.put _ (some _) _) _
    simp only [Act.put, List.setIfInBounds_toArray, List.set_cons_zero, List.set_cons_succ]
  refine wpSch_list rfl rfl (fun K hK => ?_)
  go_wp2_with (refine wpList_store_box rfl 29 _ _ rfl (w.heap.size + 1) _ rfl rfl _ HR2.out.bq.box Try.info29 rfl (by simp [Value.oneCell']) ?_; intro w5 hx5 hg5; have hc := hx5.cell; have HO5 : Hid (BoxN w5 B4 29 #[.bool z, .int .i64 n]) := BoxN.kept HO.out hg5 (fun e => hne (Option.some.inj e)); have HR5 : Hid _ := HR2.out.fin hx5 hg5; clear hx5 hg5)
  refine hK _ _ (fun _ => ⟨HR5.out.bm.cell 5, HO5.out.cell 0, HO5.out.cell 1⟩) ?_
  clear hK K
  iterate 2
    refine wpSch_read rfl rfl ?_
    apply Exists.intro
    refine ⟨fun W hW => ?_, ?_⟩
    · obtain ⟨r1, r2, r3⟩ := hW
      go_simp
      with_reducible rfl
    show wpSch _ _ _ _ _ _ (Act.put _ (some _) _) _
    simp only [Act.put, List.setIfInBounds_toArray, List.set_cons_zero, List.set_cons_succ]
  unfold wpSch
  go_wp2_with fail
  exact bodyPost_ret (by simp [results, Try.results20, go_sem, hc]) rfl ⟨_, rfl, HR5.out.bq.bel, ownsRow_base HR5.out.rw (by have := HR5.out.ge; omega)⟩
set_option maxRecDepth 20000 in
set_option maxHeartbeats 8000000 in
theorem packAt_arg (g : Gr) (T : ByteArray) (i p : Int) (hib : -9223372036854775808 ≤ i ∧ i ≤ 9223372036854775807) (hpb : -9223372036854775808 ≤ p ∧ p ≤ 9223372036854775807) {n9 e : Int} (h : W9 g n9 e) (h0 : lkE T e = 0) (hbad : i < 0 ∨ (g.rules.length : Int) ≤ i ∨ p < 0 ∨ (T.size : Int) < p) (w : World) (hin : g.In w.heap.size w) :
    Calls Try.prog 23 #[g.val, .int .i64 i, .string T, .int .i64 p] w fun r W' => r = .returned (.tuple #[oval 0 none, .int .i64 1]) ∧ Below w.heap.size w W' := by
  have hlen := hin.len
  have hA := ((Below.refl w.heap.size w).alloc (Nat.le_refl _) (.cells #[.slice g.a g.rules.length g.c] 24)).alloc (by simp) (.cells #[.bool false, .int .i64 0] 29)
  have hL := look_any g T h _ (hin.grow hA)
  have hbG := (BoxN.new w 24 #[.slice g.a g.rules.length g.c]).alloc (.cells #[.bool false, .int .i64 0] 29)
  have hbq : Bq w (w.heap.size + 1) #[.bool false, .int .i64 0] ((w.alloc (.cells #[.slice g.a g.rules.length g.c] 24)).alloc (.cells #[.bool false, .int .i64 0] 29)) := by
    have := Bq.new ((Below.refl w.heap.size w).alloc (Nat.le_refl _) (.cells #[.slice g.a g.rules.length g.c] 24))
    rwa [World.size_alloc] at this
  have HQ : Hid (Bq w (w.heap.size + 1) #[.bool false, .int .i64 0] _ ∧ BoxN _ w.heap.size 24 #[.slice g.a g.rules.length g.c]) := ⟨hbq, hbG⟩
  have hin' : ∀ W, Below w.heap.size w W → g.In W.heap.size W := fun W hb => hin.grow hb
  rw [gval_eq] at hL ⊢
  rw [h0] at hL
  unfold oval ocells
  clear hin' h hin hbG hbq hA
  by_cases q1 : i < 0
  · clear hbad
    go_enter Try.func23, Try.ntmps23
    go_wp2_with (first
      | (go_at_call 14; refine hL.mono ?_; rintro e1 W1 ⟨rfl, hb1⟩; have HB1 : Hid (Bq w (w.heap.size + 1) _ W1 ∧ BoxN W1 w.heap.size 24 _) := ⟨HQ.out.1.step hb1, HQ.out.2.below hb1 HQ.out.2.lt⟩; have c0 := HB1.out.2.cell 0; simp only [List.getElem?_toArray, List.getElem?_cons_zero] at c0; clear hb1)
      | (refine wpList_store_box rfl 29 _ _ rfl (w.heap.size + 1) _ rfl rfl _ HB1.out.1.box Try.info29 rfl (by simp [Value.oneCell']) ?_; intro w5 hx5 hg5; have hc := hx5.cell; have HB5 : Hid _ := HB1.out.1.fin hx5 hg5))
    exact bodyPost_ret (by simp [results, Try.results23, go_sem, hc]) rfl ⟨rfl, HB5.out.bel⟩
  by_cases q2 : (g.rules.length : Int) ≤ i
  · clear hbad
    go_enter Try.func23, Try.ntmps23
    go_wp2_with (first
      | (go_at_call 14; refine hL.mono ?_; rintro e1 W1 ⟨rfl, hb1⟩; have HB1 : Hid (Bq w (w.heap.size + 1) _ W1 ∧ BoxN W1 w.heap.size 24 _) := ⟨HQ.out.1.step hb1, HQ.out.2.below hb1 HQ.out.2.lt⟩; have c0 := HB1.out.2.cell 0; simp only [List.getElem?_toArray, List.getElem?_cons_zero] at c0; clear hb1)
      | (refine wpList_store_box rfl 29 _ _ rfl (w.heap.size + 1) _ rfl rfl _ HB1.out.1.box Try.info29 rfl (by simp [Value.oneCell']) ?_; intro w5 hx5 hg5; have hc := hx5.cell; have HB5 : Hid _ := HB1.out.1.fin hx5 hg5))
    exact bodyPost_ret (by simp [results, Try.results23, go_sem, hc]) rfl ⟨rfl, HB5.out.bel⟩
  by_cases q3 : p < 0
  · clear hbad
    go_enter Try.func23, Try.ntmps23
    go_wp2_with (first
      | (go_at_call 14; refine hL.mono ?_; rintro e1 W1 ⟨rfl, hb1⟩; have HB1 : Hid (Bq w (w.heap.size + 1) _ W1 ∧ BoxN W1 w.heap.size 24 _) := ⟨HQ.out.1.step hb1, HQ.out.2.below hb1 HQ.out.2.lt⟩; have c0 := HB1.out.2.cell 0; simp only [List.getElem?_toArray, List.getElem?_cons_zero] at c0; clear hb1)
      | (refine wpList_store_box rfl 29 _ _ rfl (w.heap.size + 1) _ rfl rfl _ HB1.out.1.box Try.info29 rfl (by simp [Value.oneCell']) ?_; intro w5 hx5 hg5; have hc := hx5.cell; have HB5 : Hid _ := HB1.out.1.fin hx5 hg5))
    exact bodyPost_ret (by simp [results, Try.results23, go_sem, hc]) rfl ⟨rfl, HB5.out.bel⟩
  · have q4 : (T.size : Int) < p := by omega
    clear hbad
    go_enter Try.func23, Try.ntmps23
    go_wp2_with (first
      | (go_at_call 14; refine hL.mono ?_; rintro e1 W1 ⟨rfl, hb1⟩; have HB1 : Hid (Bq w (w.heap.size + 1) _ W1 ∧ BoxN W1 w.heap.size 24 _) := ⟨HQ.out.1.step hb1, HQ.out.2.below hb1 HQ.out.2.lt⟩; have c0 := HB1.out.2.cell 0; simp only [List.getElem?_toArray, List.getElem?_cons_zero] at c0; clear hb1)
      | (refine wpList_store_box rfl 29 _ _ rfl (w.heap.size + 1) _ rfl rfl _ HB1.out.1.box Try.info29 rfl (by simp [Value.oneCell']) ?_; intro w5 hx5 hg5; have hc := hx5.cell; have HB5 : Hid _ := HB1.out.1.fin hx5 hg5))
    exact bodyPost_ret (by simp [results, Try.results23, go_sem, hc]) rfl ⟨rfl, HB5.out.bel⟩
set_option maxRecDepth 20000 in
set_option maxHeartbeats 8000000 in
theorem packAt_ok (g : Gr) (T : ByteArray) {n9 e : Int} (h : W9 g n9 e) (h0 : lkE T e = 0) {i p : Nat} (hi : i < g.rules.length) (hp : p ≤ T.size) {o : Ot} {L : List St} (hP : PkS g T i p o L) (w : World) (hin : g.In w.heap.size w) :
    Calls Try.prog 23 #[g.val, .int .i64 (i : Int), .string T, .int .i64 (p : Int)] w fun r W' => r = .returned (.tuple #[oval p o, .int .i64 0]) ∧ Below w.heap.size w W' := by
  have hlen := hin.len
  have hA := ((Below.refl w.heap.size w).alloc (Nat.le_refl _) (.cells #[.slice g.a g.rules.length g.c] 24)).alloc (by simp) (.cells #[.bool false, .int .i64 0] 29)
  have hL := look_any g T h _ (hin.grow hA)
  have hbG := (BoxN.new w 24 #[.slice g.a g.rules.length g.c]).alloc (.cells #[.bool false, .int .i64 0] 29)
  have hbq : Bq w (w.heap.size + 1) #[.bool false, .int .i64 0] ((w.alloc (.cells #[.slice g.a g.rules.length g.c] 24)).alloc (.cells #[.bool false, .int .i64 0] 29)) := by
    have := Bq.new ((Below.refl w.heap.size w).alloc (Nat.le_refl _) (.cells #[.slice g.a g.rules.length g.c] 24))
    rwa [World.size_alloc] at this
  have HQ : Hid (Bq w (w.heap.size + 1) #[.bool false, .int .i64 0] _ ∧ BoxN _ w.heap.size 24 #[.slice g.a g.rules.length g.c]) := ⟨hbq, hbG⟩
  have hin' : ∀ W, Below w.heap.size w W → g.In W.heap.size W := fun W hb => hin.grow hb
  rw [gval_eq] at hL ⊢
  rw [h0] at hL
  obtain ⟨rfl, hT⟩ := lkE_zero h0
  have hnm := fun W hb => newMem g T W (hin' W hb)
  have hrl := fun P N W hj => rule_new h T hT hp hP P N W hj
  rw [gval_eq] at hnm
  unfold oval at hrl ⊢
  obtain ⟨z, n, hzn⟩ := oc_form p o
  rw [hzn] at hrl ⊢
  have q1 : ¬ (i : Int) < 0 := by omega
  have q2 : ¬ (g.rules.length : Int) ≤ (i : Int) := by omega
  have q3 : ¬ (p : Int) < 0 := by omega
  have q4 : ¬ (T.size : Int) < (p : Int) := by omega
  clear hin' h hin hbG hbq hA h0 hP hzn
  go_enter Try.func23, Try.ntmps23
  go_wp2_with (first
    | (go_at_call 14; refine hL.mono ?_; rintro e1 W1 ⟨rfl, hb1⟩; have HB1 : Hid (Bq w (w.heap.size + 1) _ W1 ∧ BoxN W1 w.heap.size 24 _) := ⟨HQ.out.1.step hb1, HQ.out.2.below hb1 HQ.out.2.lt⟩; have c0 := HB1.out.2.cell 0; simp only [List.getElem?_toArray, List.getElem?_cons_zero] at c0; clear hb1)
    | (go_at_call 46; refine (hnm _ HB1.out.1.bel).mono ?_; rintro e2 W2 ⟨⟨pm, pk⟩, rfl, hj2, hb2⟩; have hcl := hrl ⟨pm, pk⟩ W1.heap.size W2 hj2)
    | (go_at_call 47; refine hcl.mono ?_; rintro e3 W3 ⟨rfl, hj3, hb3⟩; obtain ⟨sv, hRn⟩ := Rpk.of HB1.out.1 HB1.out.1.box.lt hb2 hj3 hb3; have HR : Hid _ := hRn; clear hRn hj2 hj3 hb2 hb3 hcl)
    | (refine wpList_store_box rfl 29 _ _ rfl (w.heap.size + 1) _ rfl rfl _ HR.out.bq.box Try.info29 rfl (by simp [Value.oneCell']) ?_; intro w5 hx5 hg5; have hc := hx5.cell; have HB5 : Hid _ := HR.out.bq.fin hx5 hg5))
  exact bodyPost_ret (by simp [results, Try.results23, go_sem, hc]) rfl ⟨rfl, HB5.out.bel⟩
end Go.Proofs.Ytokdaapmejccbaa
