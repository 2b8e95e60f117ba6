import Derived.Test.YtbeohmcmphebhaaRch
namespace Go.Proofs.Ytbeohmcmphebhaa
/-! Without what is not come to. -/
abbrev Rl := ByteArray × Ex
def sel : List Bool → List Rl → List Rl
  | b :: m, r :: l => (if b then [r] else []) ++ sel m l
  | _, _ => []
theorem sel_sub : ∀ (m : List Bool) (l : List Rl), (sel m l).Sublist l
  | [], l => by simp [sel]
  | b :: m, [] => by simp [sel]
  | b :: m, r :: l => by
    rw [sel]
    cases b with
    | true => simpa using sel_sub m l
    | false => simpa using (sel_sub m l).cons r
theorem sel_take : ∀ (m : List Bool) (l : List Rl) (i : Nat) (b : Bool) (r : Rl), m[i]? = some b → l[i]? = some r → sel (m.take (i + 1)) (l.take (i + 1)) = sel (m.take i) (l.take i) ++ (if b then [r] else [])
  | [], _, _, _, _, h, _ => by simp at h
  | _ :: _, [], _, _, _, _, h => by simp at h
  | c :: m, x :: l, 0, b, r, hb, hr => by simp at hb hr; subst hb hr; simp [sel]
  | c :: m, x :: l, i + 1, b, r, hb, hr => by
    have := sel_take m l i b r (by simpa using hb) (by simpa using hr)
    rw [List.take_succ_cons, List.take_succ_cons, sel, this, List.take_succ_cons, List.take_succ_cons, sel, List.append_assoc]
theorem sel_mem : ∀ (m : List Bool) (l : List Rl) (i : Nat) (r : Rl), m[i]? = some true → l[i]? = some r → r ∈ sel m l
  | [], _, _, _, h, _ => by simp at h
  | _ :: _, [], _, _, _, h => by simp at h
  | c :: m, x :: l, 0, r, hb, hr => by simp at hb hr; subst hb hr; simp [sel]
  | c :: m, x :: l, i + 1, r, hb, hr => by
    rw [sel]
    exact List.mem_append_right _ (sel_mem m l i r (by simpa using hb) (by simpa using hr))
theorem mem_sel : ∀ (m : List Bool) (l : List Rl) (r : Rl), r ∈ sel m l → ∃ i : Nat, m[i]? = some true ∧ l[i]? = some r
  | [], _, r, h => by simp [sel] at h
  | _ :: _, [], r, h => by simp [sel] at h
  | c :: m, x :: l, r, h => by
    rw [sel] at h
    rcases List.mem_append.1 h with h | h
    · cases c with
      | true => simp at h; subst h; exact ⟨0, rfl, rfl⟩
      | false => simp at h
    · obtain ⟨i, h1, h2⟩ := mem_sel m l r h
      exact ⟨i + 1, by simpa using h1, by simpa using h2⟩
theorem fndF_some : ∀ (l : List Rl) (i k : Nat) (s : ByteArray), fndF i l s = ((i + k : Nat) : Int) → ∃ r, l[k]? = some r ∧ r.1 = s
  | [], i, k, s, h => by rw [fndF] at h; omega
  | x :: l, i, k, s, h => by
    rw [fndF] at h
    split at h
    · rename_i hx
      have : k = 0 := by omega
      subst this
      exact ⟨x, rfl, hx⟩
    · cases k with
      | zero =>
        have := fndF_ge l (i + 1) s
        omega
      | succ k =>
        obtain ⟨r, h1, h2⟩ := fndF_some l (i + 1) k s (by rw [h]; omega)
        exact ⟨r, by simpa using h1, h2⟩
theorem fnd_some (l : List Rl) (k : Nat) (s : ByteArray) (h : fnd l s = (k : Int)) : ∃ r, l[k]? = some r ∧ r.1 = s := fndF_some l 0 k s (by rw [show 0 + k = k from by omega]; exact h)
theorem fnd_mem (l : List Rl) (r : Rl) (h : r ∈ l) : ∃ k : Nat, fnd l r.1 = (k : Int) ∧ ∃ q, l[k]? = some q ∧ q.1 = r.1 := by
  obtain ⟨i, hi⟩ := List.getElem?_of_mem h
  have h1 := fnd_le l i r hi
  refine ⟨(fnd l r.1).toNat, by omega, fnd_some l _ _ (by omega)⟩
theorem names_nodup {l : List Rl} (h : ∀ (i : Nat) (r : Rl), l[i]? = some r → fnd l r.1 = (i : Int)) : (l.map (·.1)).Nodup := by
  rw [List.Nodup, List.pairwise_iff_getElem]
  intro i j hi hj hij e
  have hi' : i < l.length := by simpa using hi
  have hj' : j < l.length := by simpa using hj
  have h1 := h i l[i] (List.getElem?_eq_getElem hi')
  have h2 := h j l[j] (List.getElem?_eq_getElem hj')
  simp at e
  rw [e] at h1
  omega
theorem nodup_same : ∀ {l : List Rl} (_ : (l.map (·.1)).Nodup) {i j : Nat} {r q : Rl}, l[i]? = some r → l[j]? = some q → r.1 = q.1 → i = j := by
  intro l h i j r q hi hj e
  have h1 : i < (l.map (·.1)).length := by simpa using (List.getElem?_eq_some_iff.1 hi).1
  refine (List.getElem?_inj h1 h).1 ?_
  rw [List.getElem?_map, List.getElem?_map, hi, hj]
  simp [e]
theorem nodup_fnd {l : List Rl} (h : (l.map (·.1)).Nodup) {i : Nat} {r : Rl} (hi : l[i]? = some r) : fnd l r.1 = (i : Int) := by
  obtain ⟨k, hk, q, hq, e⟩ := fnd_mem l r (List.mem_of_getElem? hi)
  rw [hk, nodup_same h hq hi e]
theorem gcount_sub : ∀ {l l' : List Rl}, l'.Sublist l → gcount l' ≤ gcount l := by
  intro l
  induction l with
  | nil => intro l' h; rw [List.sublist_nil.1 h]; exact Int.le_refl _
  | cons x l ih =>
    intro l' h
    have h0 := (sizeR_le x.2).1
    cases h with
    | cons _ h => rw [gcount]; have := ih h; omega
    | cons_cons _ h => rw [gcount, gcount]; have := ih h; omega
theorem rulesChk_all (all : List Rl) : ∀ (l : List Rl) (i : Nat), (∀ (j : Nat) (r : Rl), l[j]? = some r → ruleChk all (i + j) r = 0) → rulesChk all i l = 0
  | [], _, _ => rfl
  | x :: l, i, h => by
    rw [rulesChk_next _ _ _ _ (by have := h 0 x rfl; simpa using this)]
    exact rulesChk_all all l (i + 1) fun j r hr => by have := h (j + 1) r (by simpa using hr); rwa [show i + (j + 1) = i + 1 + j from by omega] at this
theorem named_all (all : List Rl) : ∀ (l : List Rl), (∀ r ∈ l, ∀ s ∈ refsR r.2, fnd all s ≠ -1) → named all l = true
  | [], _ => rfl
  | x :: l, h => by
    rw [named, named_all all l (fun r hr => h r (List.mem_cons_of_mem _ hr)), Bool.and_true]
    unfold namedI insR
    rw [List.all_eq_true]
    intro y hy
    obtain ⟨s, hs, rfl⟩ := List.mem_map.1 hy
    simpa using h x List.mem_cons_self s hs
/-- The part that is come to. -/
structure Prt (all : List Rl) (m : List Bool) : Prop where
  ok : GOk all
  isr : IsR (nxt all) all.length m
theorem Prt.nodup {all : List Rl} {m : List Bool} (h : Prt all m) : (all.map (·.1)).Nodup := names_nodup fun i r hr => (ruleChk_zero (h.ok.rules i r hr)).2.1
theorem Prt.nodup' {all : List Rl} {m : List Bool} (h : Prt all m) : ((sel m all).map (·.1)).Nodup := h.nodup.sublist ((sel_sub m all).map _)
/-- What one names that is come to. -/
theorem Prt.name {all : List Rl} {m : List Bool} (h : Prt all m) {i : Nat} {r : Rl} (hi : all[i]? = some r) (hm : m[i]? = some true) {s : ByteArray} (hs : s ∈ refsR r.2) :
    ∃ k q, fnd all s = ((k : Nat) : Int) ∧ k ∈ nxt all i ∧ all[k]? = some q ∧ q.1 = s ∧ m[k]? = some true := by
  have hx : fnd all s ∈ insR all r.2 := List.mem_map.2 ⟨s, hs, rfl⟩
  obtain ⟨k, hk, hl⟩ := h.ok.names i r hi _ hx
  obtain ⟨q, hq, he⟩ := fnd_some all k s hk
  have hn : k ∈ nxt all i := by rw [nxt_at hi]; exact List.mem_map.2 ⟨_, hx, by rw [hk]; rfl⟩
  have hil : i < all.length := (List.getElem?_eq_some_iff.1 hi).1
  exact ⟨k, q, hk, hn, hq, he, (h.isr.2 k hl).2 (((h.isr.2 i hil).1 hm).snoc hn)⟩
theorem Prt.zero {all : List Rl} {m : List Bool} (h : Prt all m) : m[0]? = some true := (h.isr.2 0 h.ok.pos).2 (Rc.refl _ _)
theorem Prt.check {all : List Rl} {m : List Bool} (h : Prt all m) : gcheck (sel m all) = 0 := by
  have hsub := sel_sub m all
  have hlen := hsub.length_le
  have h10 := h.ok.most
  obtain ⟨r0, hr0⟩ : ∃ r, all[0]? = some r := ⟨_, List.getElem?_eq_getElem h.ok.pos⟩
  have hpos := List.length_pos_of_mem (sel_mem m all 0 r0 h.zero hr0)
  have hrc : rulesChk (sel m all) 0 (sel m all) = 0 := rulesChk_all _ _ 0 fun j r hr => by
    obtain ⟨i, hi1, hi2⟩ := mem_sel m all r (List.mem_of_getElem? hr)
    obtain ⟨h1, _, h3⟩ := ruleChk_zero (h.ok.rules i r hi2)
    unfold ruleChk
    rw [if_neg (by rw [h1]; simp), if_neg (by rw [nodup_fnd h.nodup' hr]; simp), h3]
  have hct := gcount_sub hsub
  have hnm : named (sel m all) (sel m all) = true := named_all _ _ fun r hr s hs => by
    obtain ⟨i, hi1, hi2⟩ := mem_sel m all r hr
    obtain ⟨k, q, _, _, hq, he, hk⟩ := h.name hi2 hi1 hs
    obtain ⟨p, hp, _⟩ := fnd_mem (sel m all) q (sel_mem m all k q hk hq)
    rw [← he, hp]; omega
  unfold gcheck
  rw [if_neg (by omega), if_neg (by omega), hrc, if_neg (by simp), if_neg (by have := h.ok.count; omega), if_pos hnm]
/-- All of it is come to. -/
theorem Prt.all {all : List Rl} {m : List Bool} (h : Prt all m) {m' : List Bool} (h' : IsR (nxt (sel m all)) (sel m all).length m') : ∀ j : Nat, j < (sel m all).length → m'[j]? = some true := by
  have hstep : ∀ (k i j : Nat) (r q : Rl), Rk (nxt all) k i j → all[i]? = some r → m[i]? = some true → all[j]? = some q → ∀ p : Nat, (sel m all)[p]? = some r → ∃ p', (sel m all)[p']? = some q ∧ Rc (nxt (sel m all)) p p' := by
    intro k
    induction k with
    | zero =>
      intro i j r q hk hi hm hj p hp
      rw [Rk] at hk
      subst hk
      rw [hi] at hj
      cases hj
      exact ⟨p, hp, Rc.refl _ _⟩
    | succ k ih =>
      intro i j r q ⟨t, ht, hk⟩ hi hm hj p hp
      rw [nxt_at hi] at ht
      unfold insR at ht
      rw [List.map_map] at ht
      obtain ⟨s, hs, rfl⟩ := List.mem_map.1 ht
      obtain ⟨t, x, hft, _, hx, he, hmt⟩ := h.name hi hm hs
      have htt : (Int.toNat ∘ fnd all) s = t := by simp [hft]
      rw [htt] at hk ht
      obtain ⟨p2, hp2⟩ := List.getElem?_of_mem (sel_mem m all t x hmt hx)
      obtain ⟨p', hp', hrc⟩ := ih t j x q hk hx hmt hj p2 hp2
      refine ⟨p', hp', Rc.step ?_ hrc⟩
      rw [nxt_at hp]
      unfold insR
      rw [List.map_map]
      refine List.mem_map.2 ⟨s, hs, ?_⟩
      rw [← he]
      show (fnd (sel m all) x.1).toNat = p2
      rw [nodup_fnd h.nodup' hp2]; rfl
  intro j hj
  refine (h'.2 j hj).2 ?_
  obtain ⟨q, hq⟩ : ∃ q, (sel m all)[j]? = some q := ⟨_, List.getElem?_eq_getElem hj⟩
  obtain ⟨i, hi1, hi2⟩ := mem_sel m all q (List.mem_of_getElem? hq)
  have hil : i < all.length := (List.getElem?_eq_some_iff.1 hi2).1
  obtain ⟨k, hk⟩ := (h.isr.2 i hil).1 hi1
  obtain ⟨r0, hr0⟩ : ∃ r, all[0]? = some r := ⟨_, List.getElem?_eq_getElem h.ok.pos⟩
  have hp0 : (sel m all)[0]? = some r0 := by
    have hz := h.zero
    cases m with
    | nil => simp at hz
    | cons b m =>
      cases all with
      | nil => simp at hr0
      | cons x l => simp at hz hr0; subst hz hr0; simp [sel]
  obtain ⟨p', hp', hrc⟩ := hstep k 0 i r0 q hk hr0 h.zero hi2 0 hp0
  have := nodup_same h.nodup' hp' hq rfl
  rw [← this]
  exact hrc
end Go.Proofs.Ytbeohmcmphebhaa
