import Derived.Test.YtbeohmcmphebhaaDoorXRSc
import Derived.Test.YtbeohmcmphebhaaDoorXURefLit
import Derived.Test.YtbeohmcmphebhaaDoorXURunclassB
namespace Go.Proofs.YtbeohmcmphebhaaDoor
open Go.RowKit
set_option linter.unusedVariables false
/-- What the other reader's tokens are. -/
def TksR (T : ByteArray) (w w' : World) (e : Ending) : Prop := ∃ (g cap : Nat) (L : List Tk), e = .returned (.slice (some ⟨g, 0, none⟩) L.length cap) ∧ TL T L ∧ TW T.size g L w' ∧ L[0]? = some (tok T.data.toList) ∧ Below w.heap.size w w'
theorem rblank_at (T : ByteArray) (i : Nat) (hT : T.size ≤ 2000000) (hi : i ≤ T.size) : ∃ k : Nat, i ≤ k ∧ k ≤ T.size ∧ skip (T.data.toList.drop i) = T.data.toList.drop k ∧ ∀ w, Calls Tryd.prog 28 #[.string T, .int .i64 i] w fun e w' => e = .returned (.int .i64 k) ∧ w' = w := by
  have hs := skip_suf (T.data.toList.drop i)
  have hl := hs.length_le
  rw [List.length_drop, llen] at hl
  have hd := suf_drop' (hs.trans (List.drop_suffix i T.data.toList))
  rw [llen] at hd
  refine ⟨T.size - (skip (T.data.toList.drop i)).length, by omega, by omega, hd, fun w => (rblank_any T i w hT hi).mono ?_⟩
  rintro e w' ⟨⟨k, rfl, h1, h2, h3⟩, rfl⟩
  refine ⟨?_, rfl⟩
  have := congrArg List.length h3
  rw [List.length_drop, llen] at this
  rw [show k = T.size - (skip (T.data.toList.drop i)).length from by omega]
theorem tq_end {T : ByteArray} {w w' : World} {g cap i : Nat} {L : List Tk} {t : Tk} (h : Tq T.size w w' (.slice (some ⟨g, 0, none⟩) (L.length + 1) cap) (L ++ [t])) (hp : Pt T.data.toList L (T.data.toList.drop i)) (ht : tok (T.data.toList.drop i) = t) (h4 : t.k = 0 ∨ t.k = 4) : TksR T w w' (.returned (.slice (some ⟨g, 0, none⟩) (L.length + 1) cap)) := by
  subst ht
  obtain ⟨h1, h2⟩ := hp.fin h4
  exact ⟨g, cap, L ++ [tok (T.data.toList.drop i)], by simp, h1, h.tw, h2, h.bel⟩
theorem tkcs_none (n k : Nat) (s : List UInt8) (hk : k + s.length = n) : (#[.int .u8 33, .int .i64 k, .int .i64 0, .int .u64 0, .int .u64 0, .int .u64 0, .int .u64 0, .string ⟨#[]⟩, .slice none 0 0, .string ⟨#[]⟩] : Array Value) = tkcs n ⟨4, s, [], nd 0 []⟩ := by
  have : ((n : Int) - s.length) = k := by omega
  simp [tkcs, rk, rname, nd, Ex.k, Ex.S, Ex.t, Ex.a, Ex.c, Ex.kids, wd_zero, this]
theorem tkcs_end (n : Nat) : (#[.int .u8 101, .int .i64 n, .int .i64 0, .int .u64 0, .int .u64 0, .int .u64 0, .int .u64 0, .string ⟨#[]⟩, .slice none 0 0, .string ⟨#[]⟩] : Array Value) = tkcs n ⟨0, [], [], nd 0 []⟩ := by
  simp [tkcs, rk, rname, nd, Ex.k, Ex.S, Ex.t, Ex.a, Ex.c, Ex.kids, wd_zero]
/-- What a token that began as one stands for behind the change. -/
theorem tq_more {T : ByteArray} {i j : Nat} {L : List Tk} {t : Tk} (hp : Pt T.data.toList L (T.data.toList.drop i)) (ht : tok (T.data.toList.drop i) = t) (h0 : t.k ≠ 0) (h4 : t.k ≠ 4) (hr : t.r = T.data.toList.drop j) : Pt T.data.toList (L ++ [t]) (T.data.toList.drop j) := by
  subst ht
  have := hp.push h0 h4
  rwa [hr] at this
theorem Tryd.sizeT : (Tryd.prog.info? 47).map (·.size) = some 10 := by kernel_rfl
def tz (k : Nat) : Array Value := #[.int .u8 110, .int .i64 k, .int .i64 0, .int .u64 0, .int .u64 0, .int .u64 0, .int .u64 0, .string ⟨#[]⟩, .slice none 0 0, .string ⟨#[]⟩]
theorem tz_eq (k : Nat) : tz k = #[.int .u8 110, .int .i64 k, .int .i64 0, .int .u64 0, .int .u64 0, .int .u64 0, .int .u64 0, .string ⟨#[]⟩, .slice none 0 0, .string ⟨#[]⟩] := rfl
theorem tkcs_nd (n k : Nat) (kd c : UInt8) (s r : List UInt8) (hk : k + s.length = n) (hc : rk kd = c) : (#[.int .u8 (c.toNat : Int), .int .i64 k, .int .i64 0, .int .u64 0, .int .u64 0, .int .u64 0, .int .u64 0, .string ⟨#[]⟩, .slice none 0 0, .string ⟨#[]⟩] : Array Value) = tkcs n ⟨kd, s, r, nd 0 []⟩ := by
  have : ((n : Int) - s.length) = k := by omega
  simp [tkcs, rname, nd, Ex.k, Ex.S, Ex.t, Ex.a, Ex.c, Ex.kids, wd_zero, this, hc]
theorem tkcs_lfS (n k : Nat) (S : BitVec 256) (s r : List UInt8) (hk : k + s.length = n) : (#[.int .u8 110, .int .i64 k, .int .i64 2, .int .u64 (wd S 0), .int .u64 (wd S 1), .int .u64 (wd S 2), .int .u64 (wd S 3), .string ⟨#[]⟩, .slice none 0 0, .string ⟨#[]⟩] : Array Value) = tkcs n ⟨1, s, r, lfS S⟩ := by
  have : ((n : Int) - s.length) = k := by omega
  simp [tkcs, rk, rname, lfS, Ex.k, Ex.S, Ex.t, Ex.a, Ex.c, Ex.kids, this]
theorem tkcs_lit (n k : Nat) (t : List UInt8) (s r : List UInt8) (hk : k + s.length = n) : (#[.int .u8 110, .int .i64 k, .int .i64 3, .int .u64 0, .int .u64 0, .int .u64 0, .int .u64 0, .string ⟨t.toArray⟩, .slice none 0 0, .string ⟨#[]⟩] : Array Value) = tkcs n ⟨1, s, r, lfT 3 t⟩ := by
  have : ((n : Int) - s.length) = k := by omega
  simp [tkcs, rk, rname, lfT, Ex.k, Ex.S, Ex.t, Ex.a, Ex.c, Ex.kids, this, wd_zero]
theorem tkcs_nd1 (n k : Nat) (s r : List UInt8) (hk : k + s.length = n) : (#[.int .u8 110, .int .i64 k, .int .i64 1, .int .u64 0, .int .u64 0, .int .u64 0, .int .u64 0, .string ⟨#[]⟩, .slice none 0 0, .string ⟨#[]⟩] : Array Value) = tkcs n ⟨1, s, r, nd 1 []⟩ := by
  have : ((n : Int) - s.length) = k := by omega
  simp [tkcs, rk, rname, nd, Ex.k, Ex.S, Ex.t, Ex.a, Ex.c, Ex.kids, wd_zero, this]
theorem tkcs_name (n k : Nat) (kd c : UInt8) (t : List UInt8) (s r : List UInt8) (hk : k + s.length = n) (hc : rk kd = c) : (#[.int .u8 (c.toNat : Int), .int .i64 k, .int .i64 4, .int .u64 0, .int .u64 0, .int .u64 0, .int .u64 0, .string ⟨t.toArray⟩, .slice none 0 0, .string ⟨t.toArray⟩] : Array Value) = tkcs n ⟨kd, s, r, lfT 4 t⟩ := by
  have : ((n : Int) - s.length) = k := by omega
  simp [tkcs, rname, lfT, Ex.k, Ex.S, Ex.t, Ex.a, Ex.c, Ex.kids, this, wd_zero, hc]
theorem rk_sign (c : UInt8) (h : isSg c = true) (h33 : ¬ c = 33) : rk c = c := by
  unfold rk
  rw [if_neg (by rintro rfl; exact absurd h (by decide)), if_neg (by rintro rfl; exact absurd h (by decide)), if_neg (by rintro rfl; exact absurd h (by decide)), if_neg (by rintro rfl; exact absurd h (by decide)), if_neg (by rintro rfl; exact absurd h (by decide)), if_neg h33]
theorem lit_bd (c : UInt8) (r : List UInt8) (hc : c = 39 ∨ c = 34) (x : List UInt8 × Nat) (h : unlit [39, 34, 92] (c :: r) = some x) : 1 ≤ x.2 ∧ x.2 ≤ (c :: r).length := by
  have hl : leafAt (c :: r) = some (if x.1 = [] then nd 1 [] else lfT 3 x.1, x.2) := by rw [leafAt_cons, if_pos hc, h]; rfl
  exact ⟨leafAt_pos _ _ hl, leafAt_le _ _ hl⟩
theorem cls_bd (r : List UInt8) (x : BitVec 256 × Nat) (h : unclass (91 :: r) = some x) : 1 ≤ x.2 ∧ x.2 ≤ (91 :: r).length := by
  have hl : leafAt (91 :: r) = some (lfS x.1, x.2) := by rw [leafAt_cons, if_neg (by decide), if_pos rfl, h]; rfl
  exact ⟨leafAt_pos _ _ hl, leafAt_le _ _ hl⟩
theorem cons_drop {T : List UInt8} {k m : Nat} {c : UInt8} (h : T.drop k = c :: T.drop (k + 1)) : (c :: T.drop (k + 1)).drop m = T.drop (k + m) := by rw [← h, List.drop_drop]
theorem setl7 (a b c0 c1 c2 c3 c4 c5 c6 d v0 v1 v2 v3 v4 v5 v6 : Value) : setl #[a, b, c0, c1, c2, c3, c4, c5, c6, d] 2 (#[v0, v1, v2, v3, v4, v5, v6] : Array Value).toList = #[a, b, v0, v1, v2, v3, v4, v5, v6, d] := by simp [setl]
theorem set0 (a b c d e f g h i j v : Value) : (#[a, b, c, d, e, f, g, h, i, j] : Array Value).setIfInBounds 0 v = #[v, b, c, d, e, f, g, h, i, j] := by simp
set_option maxRecDepth 20000 in
set_option maxHeartbeats 16000000 in
theorem tokens_any (T : ByteArray) (w : World) (hT : T.size ≤ 2000) : Calls Tryd.prog 16 #[.string T, .bool false] w fun e w' => TksR T w w' e := by
  have K0 : Hid (Tq T.size w w (.slice none 0 0) []) := Tq.start _ w
  have P0 : Hid (Pt T.data.toList [] (T.data.toList.drop 0) ∧ T.size - 0 < T.size + 1) := ⟨Pt.start _, by omega⟩
  go_enter Tryd.func16, Tryd.ntmps16
  go_wp2_with fail
  go_loopg [5, 6] (T.size + 1) (fun gk v q wr => ∃ (i : Nat) (L : List Tk), q = .int .i64 i ∧ i ≤ T.size ∧ Hid (Tq T.size w wr v L) ∧ Hid (Pt T.data.toList L (T.data.toList.drop i) ∧ T.size - i < gk))
  case atStart => exact ⟨0, [], rfl, Nat.zero_le _, K0, P0⟩
  case round =>
    clear K0 P0
    rename_i J K hJ hK
    obtain ⟨i, L, rfl, hi, HK, HP⟩ := hrel
    have HJJ : Hid (∀ (x4 x7 x8 x9 x10 x11 x12 x13 x14 x15 x16 x17 x18 x19 x20 x21 x22 x23 x24 x25 x26 x27 x28 x29 x30 x31 x32 x33 x34 x35 x36 x37 x38 x39 x40 x41 x42 x43 x44 x45 x46 x47 x48 x49 x50 x51 x52 x53 x54 x55 x56 x57 x58 x59 x60 x61 x62 x63 x64 x65 x66 x67 x68 x69 x70 x71 x72 x73 x74 x75 x76 x77 x78 x79 x80 x81 x82 x83 x84 x85 x86 x87 x88 x89 x90 x91 x92 x93 x94 x95 x96 x97 x98 x99 x100 x101 x102 x103 x104 x105 x106 x107 x108 x109 x110 x111 x112 x113 x114 x115 x116 x117 x118 x119 x120 x121 x122 x123 x124 x125 x126 x127 x128 x129 x130 x131 x132 x133 x134 x135 x136 x137 x138 x139 x140 x141 x142 x143 x144 x145 x146 x147 x148 x149 x150 x151 x152 x153 x154 x155 x156 x157 x158 x159 x160 x161 x162 x163 x164 x165 x166 x167 x168 x169 x170 x171 x172 x173 x174 x175 x176 x177 x178 x179 x180 x181 x182 x183 x184 v : Value) (i' : Nat) (q : Int) (L' : List Tk) (W : World), q = ((i' : Nat) : Int) → i' ≤ T.size → Tq T.size w W v L' → Pt T.data.toList L' (T.data.toList.drop i') → T.size - i' < T.size - i → Handed J gk ⟨#[.string T, .bool false, undef, undef, x4, v, .int .i64 q, x7, x8, x9, x10, x11, x12, x13, x14, x15, x16, x17, x18, x19, x20, x21, x22, x23, x24, x25, x26, x27, x28, x29, x30, x31, x32, x33, x34, x35, x36, x37, x38, x39, x40, x41, x42, x43, x44, x45, x46, x47, x48, x49, x50, x51, x52, x53, x54, x55, x56, x57, x58, x59, x60, x61, x62, x63, x64, x65, x66, x67, x68, x69, x70, x71, x72, x73, x74, x75, x76, x77, x78, x79, x80, x81, x82, x83, x84, x85, x86, x87, x88, x89, x90, x91, x92, x93, x94, x95, x96, x97, x98, x99, x100, x101, x102, x103, x104, x105, x106, x107, x108, x109, x110, x111, x112, x113, x114, x115, x116, x117, x118, x119, x120, x121, x122, x123, x124, x125, x126, x127, x128, x129, x130, x131, x132, x133, x134, x135, x136, x137, x138, x139, x140, x141, x142, x143, x144, x145, x146, x147, x148, x149, x150, x151, x152, x153, x154, x155, x156, x157, x158, x159, x160, x161, x162, x163, x164, x165, x166, x167, x168, x169, x170, x171, x172, x173, x174, x175, x176, x177, x178, x179, x180, x181, x182, x183, x184], []⟩ W) := by
      intro x4 x7 x8 x9 x10 x11 x12 x13 x14 x15 x16 x17 x18 x19 x20 x21 x22 x23 x24 x25 x26 x27 x28 x29 x30 x31 x32 x33 x34 x35 x36 x37 x38 x39 x40 x41 x42 x43 x44 x45 x46 x47 x48 x49 x50 x51 x52 x53 x54 x55 x56 x57 x58 x59 x60 x61 x62 x63 x64 x65 x66 x67 x68 x69 x70 x71 x72 x73 x74 x75 x76 x77 x78 x79 x80 x81 x82 x83 x84 x85 x86 x87 x88 x89 x90 x91 x92 x93 x94 x95 x96 x97 x98 x99 x100 x101 x102 x103 x104 x105 x106 x107 x108 x109 x110 x111 x112 x113 x114 x115 x116 x117 x118 x119 x120 x121 x122 x123 x124 x125 x126 x127 x128 x129 x130 x131 x132 x133 x134 x135 x136 x137 x138 x139 x140 x141 x142 x143 x144 x145 x146 x147 x148 x149 x150 x151 x152 x153 x154 x155 x156 x157 x158 x159 x160 x161 x162 x163 x164 x165 x166 x167 x168 x169 x170 x171 x172 x173 x174 x175 x176 x177 x178 x179 x180 x181 x182 x183 x184 v i' q L' W hq h1 h2 h3 h4
      subst hq
      go_roundg (T.size - i)
      case measure => exact HP.out.2
      case rel => exact ⟨i', L', rfl, h1, h2, h3, h4⟩
    clear hJ
    obtain ⟨k, hik, hk, hsk, hbl⟩ := rblank_at T i (by omega) hi
    have hLn : L.length ≤ 2000000 := by have := HP.out.1.len; rw [llen] at this; omega
    have HS : Hid (skip (T.data.toList.drop i) = T.data.toList.drop k) := hsk
    have HB : Hid (∀ k, u5.ownBlock = some k → k < wr.heap.size) := fun k hk => (HK.out.blk k hk).2
    have HW : Hid (w.heap.size ≤ wr.heap.size) := HK.out.bel.size
    clear hsk
    by_cases hend : k = T.size
    · have g1 : ((k : Int) == (T.size : Int)) = true := by rw [beq_iff_eq, hend]
      have g1' : (k == T.size) = true := by rw [beq_iff_eq, hend]
      have HT : Hid (tok (T.data.toList.drop i) = ⟨0, [], [], nd 0 []⟩) := rt_end _ (by rw [HS.out, hend, ← llen, List.drop_length])
      have HC : Hid _ := tkcs_end T.size
      subst hend
      go_wp2_with (first
        | (go_at_call 28; refine (hbl _).mono ?_; rintro e w1 ⟨rfl, rfl⟩)
        | (at_builtin; refine wpList_app_tk rfl _ _ rfl HK.out rfl rfl rfl HC.out hLn ?_; intro g4 cap4 w4 k4))
      go_ret
      exact tq_end k4 HP.out.1 HT.out (.inl rfl)
    · have hkl : k < T.size := by omega
      have hki : (k : Int) < T.size := by omega
      have g1 : ((k : Int) == (T.size : Int)) = false := by rw [beq_eq_false_iff_ne]; omega
      have g1' : (k == T.size) = false := by rw [beq_eq_false_iff_ne]; exact hend
      clear hend
      have hdg := drop_get T k hkl
      obtain ⟨c, hc⟩ : ∃ c, c = T[k] := ⟨_, rfl⟩
      have hsl : k + (T.data.toList.drop k).length = T.size := by rw [List.length_drop, llen]; omega
      have HD : Hid (T.data.toList.drop k = c :: T.data.toList.drop (k + 1) ∧ k + (c :: T.data.toList.drop (k + 1)).length = T.size ∧ skip (T.data.toList.drop i) = c :: T.data.toList.drop (k + 1)) := ⟨by rw [hdg, hc], by rw [hc, ← hdg]; exact hsl, by rw [HS.out, hdg, hc]⟩
      have bT0 : Hid (BoxN (wr.alloc (.cells (tz k) 47)) wr.heap.size 47 (tz k) ∧ Tq T.size w (wr.alloc (.cells (tz k) 47)) u5 L) := ⟨BoxN.new wr 47 (tz k), HK.out.alloc _⟩
      rw [tz_eq] at bT0
      have HcT : Hid (c = T[k]) := hc
      clear hdg hsl hc
      have hlet : ∀ W, Calls Tryd.prog 32 #[.int .u8 (T[k].toNat : Int)] W fun e w' => e = .returned (.bool (isL (c.toNat : Int))) ∧ w' = W := fun W => by rw [HcT.out]; exact letter22 _ W
      have hpf : ∀ W, Calls Tryd.prog 34 #[.string (T.extract k T.size), .string ⟨#[60, 45]⟩] W fun e w' => e = .returned (.bool (decide (c = 60 ∧ (T.data.toList.drop (k + 1)).headD 0 = 45))) ∧ w' = W := fun W => by
        have := Tryd.strings_HasPrefix (T.extract k T.size) ⟨#[60, 45]⟩ W
        rw [cut_list, show (⟨#[60, 45]⟩ : ByteArray).data.toList = [60, 45] from rfl, pre6045, HD.out.1] at this
        simpa using this
      obtain ⟨q, HQ, hix⟩ : ∃ q : Int, Hid (decide (0 ≤ q) = isSg c) ∧ ∀ W, Calls Tryd.prog 35 #[.string ⟨#[40, 41, 47, 38, 33, 63, 42, 43]⟩, .int .u8 (T[k].toNat : Int)] W fun e w' => e = .returned (.int .i64 q) ∧ w' = W := ⟨Lib.indexByte [40, 41, 47, 38, 33, 63, 42, 43] c, sgs_is c, fun W => by
        rw [HcT.out]
        have := Tryd.strings_IndexByte ⟨#[40, 41, 47, 38, 33, 63, 42, 43]⟩ (T[k].toNat : Int) W
        simpa using this⟩
      go_wp2_with (first
        | (go_at_call 28; refine (hbl _).mono ?_; rintro e w1 ⟨rfl, rfl⟩))
      · have hc39 : c = 39 := by
          have h : ((T[k].toNat : Int) == 39) = true := beq_iff_eq.2 ‹(T[k].toNat : Int) = 39›
          rw [← HcT.out, beq_iff_eq] at h
          exact UInt8.toNat_inj.1 (by show c.toNat = 39; omega)
        have hA : c = 39 ∨ c = 34 := .inl hc39
        clear hc39
        have hun : ∀ W, _ := fun W => runlit_any (T.extract k T.size) W (by simp; omega)
        rw [cut_list, HD.out.1] at hun
        have htk := rt_lit _ c _ HD.out.2.2 hA
        clear hlet hpf hix
        rcases hRx : unlit [39, 34, 92] (c :: T.data.toList.drop (k + 1)) with _ | x
        · rw [hRx] at htk hun
          simp only [uT, uN, uE] at hun
          have HT : Hid (tok (T.data.toList.drop i) = ⟨4, c :: T.data.toList.drop (k + 1), [], nd 0 []⟩) := htk
          have HC : Hid _ := tkcs_none T.size k (c :: T.data.toList.drop (k + 1)) HD.out.2.1
          clear hA htk hRx
          refine (hun _).mono ?_; rintro e w2 ⟨rfl, hb2⟩; have bT : Hid _ := bT0.out.1.below hb2 (by simp); have KT : Hid _ := bT0.out.2.below hb2; clear hb2
          go_wp2_with (first
            | (at_builtin; refine wpList_app_tk rfl _ _ rfl KT.out rfl (H := w2.heap.size) rfl rfl HC.out hLn ?_; intro g4 cap4 w9 k4))
          go_ret
          exact tq_end k4 HP.out.1 HT.out (.inr rfl)
        · obtain ⟨z, m⟩ := x
          have hbd := lit_bd c _ hA _ hRx
          rw [hRx] at htk hun
          simp only [uT, uN, uE] at hun
          simp only at htk hbd
          have hm1 : 1 ≤ m := hbd.1
          have hm2 : k + m ≤ T.size := by have := HD.out.2.1; have := hbd.2; omega
          by_cases hz : z = []
          · subst hz
            rw [if_pos rfl, cons_drop HD.out.1] at htk
            have HT : Hid (tok (T.data.toList.drop i) = ⟨1, c :: T.data.toList.drop (k + 1), T.data.toList.drop (k + m), nd 1 []⟩) := htk
            have HC : Hid _ := tkcs_nd1 T.size k (c :: T.data.toList.drop (k + 1)) (T.data.toList.drop (k + m)) HD.out.2.1
            clear hA htk hRx hbd
            refine (hun _).mono ?_; rintro e w2 ⟨rfl, hb2⟩; have bT : Hid _ := bT0.out.1.below hb2 (by simp); have KT : Hid _ := bT0.out.2.below hb2; clear hb2
            go_wp2_with (first
              | (refine wpList_store_part rfl 27 _ _ rfl w1.heap.size 2 _ rfl rfl 47 _ bT3.out (by simp) Tryd.info27 (by simp [Value.oneCell']) ?_; intro w4 hx4 hg4; have KT4 : Hid _ := KT3.out.box HB.out HW.out hg4; rw [setl7] at hx4; have bT4 : Hid _ := hx4; have hcl4 := hx4.cell; clear hx4 hg4)
              | (refine wpList_store_part rfl 27 _ _ rfl w1.heap.size 2 _ rfl rfl 47 _ bT.out (by simp) Tryd.info27 (by simp [Value.oneCell']) ?_; intro w3 hx3 hg3; have KT3 : Hid _ := KT.out.box HB.out HW.out hg3; rw [setl7] at hx3; have bT3 : Hid _ := hx3; have hcl3 := hx3.cell; clear hx3 hg3)
              | (at_builtin; refine wpList_app_tk rfl _ _ rfl KT4.out rfl (H := w4.heap.size) rfl rfl HC.out hLn ?_; intro g4 cap4 w9 k4))
            refine HJJ.out _ _ _ _ _ _ _ _ _ _ _ _ _ _ _ _ _ _ _ _ _ _ _ _ _ _ _ _ _ _ _ _ _ _ _ _ _ _ _ _ _ _ _ _ _ _ _ _ _ _ _ _ _ _ _ _ _ _ _ _ _ _ _ _ _ _ _ _ _ _ _ _ _ _ _ _ _ _ _ _ _ _ _ _ _ _ _ _ _ _ _ _ _ _ _ _ _ _ _ _ _ _ _ _ _ _ _ _ _ _ _ _ _ _ _ _ _ _ _ _ _ _ _ _ _ _ _ _ _ _ _ _ _ _ _ _ _ _ _ _ _ _ _ _ _ _ _ _ _ _ _ _ _ _ _ _ _ _ _ _ _ _ _ _ _ _ _ _ _ _ _ _ _ _ _ _ _ _ _ _ (k + m) _ (L ++ [_]) _ ?_ (by omega) k4 (tq_more HP.out.1 HT.out (by show (1 : UInt8) ≠ 0; decide) (by show (1 : UInt8) ≠ 4; decide) rfl) (by omega)
            omega
          · rw [if_neg hz, cons_drop HD.out.1] at htk
            have HT : Hid (tok (T.data.toList.drop i) = ⟨1, c :: T.data.toList.drop (k + 1), T.data.toList.drop (k + m), lfT 3 z⟩) := htk
            have HC : Hid _ := tkcs_lit T.size k z (c :: T.data.toList.drop (k + 1)) (T.data.toList.drop (k + m)) HD.out.2.1
            have hne : z.isEmpty = false := by simpa using hz
            clear hA htk hRx hbd hz
            refine (hun _).mono ?_; rintro e w2 ⟨rfl, hb2⟩; have bT : Hid _ := bT0.out.1.below hb2 (by simp); have KT : Hid _ := bT0.out.2.below hb2; clear hb2
            go_wp2_with (first
              | (refine wpList_store_part rfl 27 _ _ rfl w1.heap.size 2 _ rfl rfl 47 _ bT.out (by simp) Tryd.info27 (by simp [Value.oneCell']) ?_; intro w3 hx3 hg3; have KT3 : Hid _ := KT.out.box HB.out HW.out hg3; rw [setl7] at hx3; have bT3 : Hid _ := hx3; have hcl3 := hx3.cell; clear hx3 hg3)
              | (at_builtin; refine wpList_app_tk rfl _ _ rfl KT3.out rfl (H := w3.heap.size) rfl rfl HC.out hLn ?_; intro g4 cap4 w9 k4))
            refine HJJ.out _ _ _ _ _ _ _ _ _ _ _ _ _ _ _ _ _ _ _ _ _ _ _ _ _ _ _ _ _ _ _ _ _ _ _ _ _ _ _ _ _ _ _ _ _ _ _ _ _ _ _ _ _ _ _ _ _ _ _ _ _ _ _ _ _ _ _ _ _ _ _ _ _ _ _ _ _ _ _ _ _ _ _ _ _ _ _ _ _ _ _ _ _ _ _ _ _ _ _ _ _ _ _ _ _ _ _ _ _ _ _ _ _ _ _ _ _ _ _ _ _ _ _ _ _ _ _ _ _ _ _ _ _ _ _ _ _ _ _ _ _ _ _ _ _ _ _ _ _ _ _ _ _ _ _ _ _ _ _ _ _ _ _ _ _ _ _ _ _ _ _ _ _ _ _ _ _ _ _ _ (k + m) _ (L ++ [_]) _ ?_ (by omega) k4 (tq_more HP.out.1 HT.out (by show (1 : UInt8) ≠ 0; decide) (by show (1 : UInt8) ≠ 4; decide) rfl) (by omega)
            omega
      · have hc34 : c = 34 := by
          have h : ((T[k].toNat : Int) == 34) = true := (‹(((T[k].toNat : Int) == 39) = true ∨ ((T[k].toNat : Int) == 34) = true)›).resolve_left (fun h => ‹¬ (T[k].toNat : Int) = 39› (beq_iff_eq.1 h))
          rw [← HcT.out, beq_iff_eq] at h
          exact UInt8.toNat_inj.1 (by show c.toNat = 34; omega)
        have hA : c = 39 ∨ c = 34 := .inr hc34
        clear hc34
        have hun : ∀ W, _ := fun W => runlit_any (T.extract k T.size) W (by simp; omega)
        rw [cut_list, HD.out.1] at hun
        have htk := rt_lit _ c _ HD.out.2.2 hA
        clear hlet hpf hix
        rcases hRx : unlit [39, 34, 92] (c :: T.data.toList.drop (k + 1)) with _ | x
        · rw [hRx] at htk hun
          simp only [uT, uN, uE] at hun
          have HT : Hid (tok (T.data.toList.drop i) = ⟨4, c :: T.data.toList.drop (k + 1), [], nd 0 []⟩) := htk
          have HC : Hid _ := tkcs_none T.size k (c :: T.data.toList.drop (k + 1)) HD.out.2.1
          clear hA htk hRx
          refine (hun _).mono ?_; rintro e w2 ⟨rfl, hb2⟩; have bT : Hid _ := bT0.out.1.below hb2 (by simp); have KT : Hid _ := bT0.out.2.below hb2; clear hb2
          go_wp2_with (first
            | (at_builtin; refine wpList_app_tk rfl _ _ rfl KT.out rfl (H := w2.heap.size) rfl rfl HC.out hLn ?_; intro g4 cap4 w9 k4))
          go_ret
          exact tq_end k4 HP.out.1 HT.out (.inr rfl)
        · obtain ⟨z, m⟩ := x
          have hbd := lit_bd c _ hA _ hRx
          rw [hRx] at htk hun
          simp only [uT, uN, uE] at hun
          simp only at htk hbd
          have hm1 : 1 ≤ m := hbd.1
          have hm2 : k + m ≤ T.size := by have := HD.out.2.1; have := hbd.2; omega
          by_cases hz : z = []
          · subst hz
            rw [if_pos rfl, cons_drop HD.out.1] at htk
            have HT : Hid (tok (T.data.toList.drop i) = ⟨1, c :: T.data.toList.drop (k + 1), T.data.toList.drop (k + m), nd 1 []⟩) := htk
            have HC : Hid _ := tkcs_nd1 T.size k (c :: T.data.toList.drop (k + 1)) (T.data.toList.drop (k + m)) HD.out.2.1
            clear hA htk hRx hbd
            refine (hun _).mono ?_; rintro e w2 ⟨rfl, hb2⟩; have bT : Hid _ := bT0.out.1.below hb2 (by simp); have KT : Hid _ := bT0.out.2.below hb2; clear hb2
            go_wp2_with (first
              | (refine wpList_store_part rfl 27 _ _ rfl w1.heap.size 2 _ rfl rfl 47 _ bT3.out (by simp) Tryd.info27 (by simp [Value.oneCell']) ?_; intro w4 hx4 hg4; have KT4 : Hid _ := KT3.out.box HB.out HW.out hg4; rw [setl7] at hx4; have bT4 : Hid _ := hx4; have hcl4 := hx4.cell; clear hx4 hg4)
              | (refine wpList_store_part rfl 27 _ _ rfl w1.heap.size 2 _ rfl rfl 47 _ bT.out (by simp) Tryd.info27 (by simp [Value.oneCell']) ?_; intro w3 hx3 hg3; have KT3 : Hid _ := KT.out.box HB.out HW.out hg3; rw [setl7] at hx3; have bT3 : Hid _ := hx3; have hcl3 := hx3.cell; clear hx3 hg3)
              | (at_builtin; refine wpList_app_tk rfl _ _ rfl KT4.out rfl (H := w4.heap.size) rfl rfl HC.out hLn ?_; intro g4 cap4 w9 k4))
            refine HJJ.out _ _ _ _ _ _ _ _ _ _ _ _ _ _ _ _ _ _ _ _ _ _ _ _ _ _ _ _ _ _ _ _ _ _ _ _ _ _ _ _ _ _ _ _ _ _ _ _ _ _ _ _ _ _ _ _ _ _ _ _ _ _ _ _ _ _ _ _ _ _ _ _ _ _ _ _ _ _ _ _ _ _ _ _ _ _ _ _ _ _ _ _ _ _ _ _ _ _ _ _ _ _ _ _ _ _ _ _ _ _ _ _ _ _ _ _ _ _ _ _ _ _ _ _ _ _ _ _ _ _ _ _ _ _ _ _ _ _ _ _ _ _ _ _ _ _ _ _ _ _ _ _ _ _ _ _ _ _ _ _ _ _ _ _ _ _ _ _ _ _ _ _ _ _ _ _ _ _ _ _ (k + m) _ (L ++ [_]) _ ?_ (by omega) k4 (tq_more HP.out.1 HT.out (by show (1 : UInt8) ≠ 0; decide) (by show (1 : UInt8) ≠ 4; decide) rfl) (by omega)
            omega
          · rw [if_neg hz, cons_drop HD.out.1] at htk
            have HT : Hid (tok (T.data.toList.drop i) = ⟨1, c :: T.data.toList.drop (k + 1), T.data.toList.drop (k + m), lfT 3 z⟩) := htk
            have HC : Hid _ := tkcs_lit T.size k z (c :: T.data.toList.drop (k + 1)) (T.data.toList.drop (k + m)) HD.out.2.1
            have hne : z.isEmpty = false := by simpa using hz
            clear hA htk hRx hbd hz
            refine (hun _).mono ?_; rintro e w2 ⟨rfl, hb2⟩; have bT : Hid _ := bT0.out.1.below hb2 (by simp); have KT : Hid _ := bT0.out.2.below hb2; clear hb2
            go_wp2_with (first
              | (refine wpList_store_part rfl 27 _ _ rfl w1.heap.size 2 _ rfl rfl 47 _ bT.out (by simp) Tryd.info27 (by simp [Value.oneCell']) ?_; intro w3 hx3 hg3; have KT3 : Hid _ := KT.out.box HB.out HW.out hg3; rw [setl7] at hx3; have bT3 : Hid _ := hx3; have hcl3 := hx3.cell; clear hx3 hg3)
              | (at_builtin; refine wpList_app_tk rfl _ _ rfl KT3.out rfl (H := w3.heap.size) rfl rfl HC.out hLn ?_; intro g4 cap4 w9 k4))
            refine HJJ.out _ _ _ _ _ _ _ _ _ _ _ _ _ _ _ _ _ _ _ _ _ _ _ _ _ _ _ _ _ _ _ _ _ _ _ _ _ _ _ _ _ _ _ _ _ _ _ _ _ _ _ _ _ _ _ _ _ _ _ _ _ _ _ _ _ _ _ _ _ _ _ _ _ _ _ _ _ _ _ _ _ _ _ _ _ _ _ _ _ _ _ _ _ _ _ _ _ _ _ _ _ _ _ _ _ _ _ _ _ _ _ _ _ _ _ _ _ _ _ _ _ _ _ _ _ _ _ _ _ _ _ _ _ _ _ _ _ _ _ _ _ _ _ _ _ _ _ _ _ _ _ _ _ _ _ _ _ _ _ _ _ _ _ _ _ _ _ _ _ _ _ _ _ _ _ _ _ _ _ _ (k + m) _ (L ++ [_]) _ ?_ (by omega) k4 (tq_more HP.out.1 HT.out (by show (1 : UInt8) ≠ 0; decide) (by show (1 : UInt8) ≠ 4; decide) rfl) (by omega)
            omega
      · have hc91 : c = 91 := by
          have h : ((T[k].toNat : Int) == 91) = true := ‹((T[k].toNat : Int) == 91) = true›
          rw [← HcT.out, beq_iff_eq] at h
          exact UInt8.toNat_inj.1 (by show c.toNat = 91; omega)
        have h91' : (T.extract k T.size).data.toList.headD 0 = 91 := by rw [cut_list, HD.out.1, hc91]; rfl
        have hlt : (T.extract k T.size).data.toList = c :: T.data.toList.drop (k + 1) := by rw [cut_list, HD.out.1]
        clear hlet hpf hix
        rcases hRx : unclass (c :: T.data.toList.drop (k + 1)) with _ | x
        · have hun : ∀ W, _ := fun W => runclass_yes (T.extract k T.size) W (by simp; omega) h91' none (by rw [hlt]; exact hRx)
          have HT : Hid (tok (T.data.toList.drop i) = ⟨4, c :: T.data.toList.drop (k + 1), [], nd 0 []⟩) := by
            have h1 := HD.out.2.2
            rw [Hid]
            rw [hc91] at h1 hRx ⊢
            rw [rt_cls _ _ h1, hRx]
          have HC : Hid _ := tkcs_none T.size k (c :: T.data.toList.drop (k + 1)) HD.out.2.1
          simp only [kS, kN, kE] at hun
          generalize (0#256 : BitVec 256) = S at hun
          clear hc91 h91' hlt hRx
          refine (hun _).mono ?_; rintro e w2 ⟨rfl, hb2⟩; have KT : Hid _ := bT0.out.2.below hb2; clear hb2
          go_wp2_with (first
            | (at_builtin; refine wpList_app_tk rfl _ _ rfl (KT.out.alloc _) rfl (H := w2.heap.size + 1) (by simp) rfl HC.out hLn ?_; intro g4 cap4 w9 k4))
          go_ret
          exact tq_end k4 HP.out.1 HT.out (.inr rfl)
        · obtain ⟨S, m⟩ := x
          have hun : ∀ W, _ := fun W => runclass_yes (T.extract k T.size) W (by simp; omega) h91' (some (S, m)) (by rw [hlt]; exact hRx)
          have HT : Hid (tok (T.data.toList.drop i) = ⟨1, c :: T.data.toList.drop (k + 1), T.data.toList.drop (k + m), lfS S⟩) := by
            have h1 := HD.out.2.2
            have h2 := cons_drop (m := m) HD.out.1
            rw [Hid]
            rw [hc91] at h1 h2 hRx ⊢
            rw [rt_cls _ _ h1, hRx, ← h2]
          have HC : Hid _ := tkcs_lfS T.size k S (c :: T.data.toList.drop (k + 1)) (T.data.toList.drop (k + m)) HD.out.2.1
          simp only [kS, kN, kE] at hun
          have hbd := cls_bd (T.data.toList.drop (k + 1)) (S, m) (by rw [← hc91]; exact hRx)
          have hm1 : 1 ≤ m := hbd.1
          have hm2 : k + m ≤ T.size := by have h1 := HD.out.2.1; have h2 : m ≤ _ := hbd.2; simp only [List.length_cons] at h1 h2; omega
          clear hc91 h91' hlt hRx hbd
          refine (hun _).mono ?_; rintro e w2 ⟨rfl, hb2⟩; have bT : Hid (BoxN (w2.alloc (.cells #[.int .u64 (wd S 0), .int .u64 (wd S 1), .int .u64 (wd S 2), .int .u64 (wd S 3)] 24)) w1.heap.size 47 _) := (bT0.out.1.below hb2 (by simp)).alloc _; have KT : Hid (Tq T.size w (w2.alloc (.cells #[.int .u64 (wd S 0), .int .u64 (wd S 1), .int .u64 (wd S 2), .int .u64 (wd S 3)] 24)) _ L) := (bT0.out.2.below hb2).alloc _; clear hb2
          go_wp2_with (first
            | (refine wpList_store_part rfl 27 _ _ rfl w1.heap.size 2 _ rfl rfl 47 _ bT.out (by simp) Tryd.info27 (by simp [Value.oneCell']) ?_; intro w3 hx3 hg3; have KT3 : Hid _ := KT.out.box HB.out HW.out hg3; rw [setl7] at hx3; have bT3 : Hid _ := hx3; have hcl3 := hx3.cell; clear hx3 hg3)
            | (at_builtin; refine wpList_app_tk rfl _ _ rfl KT3.out rfl (H := w3.heap.size) rfl rfl HC.out hLn ?_; intro g4 cap4 w9 k4))
          refine HJJ.out _ _ _ _ _ _ _ _ _ _ _ _ _ _ _ _ _ _ _ _ _ _ _ _ _ _ _ _ _ _ _ _ _ _ _ _ _ _ _ _ _ _ _ _ _ _ _ _ _ _ _ _ _ _ _ _ _ _ _ _ _ _ _ _ _ _ _ _ _ _ _ _ _ _ _ _ _ _ _ _ _ _ _ _ _ _ _ _ _ _ _ _ _ _ _ _ _ _ _ _ _ _ _ _ _ _ _ _ _ _ _ _ _ _ _ _ _ _ _ _ _ _ _ _ _ _ _ _ _ _ _ _ _ _ _ _ _ _ _ _ _ _ _ _ _ _ _ _ _ _ _ _ _ _ _ _ _ _ _ _ _ _ _ _ _ _ _ _ _ _ _ _ _ _ _ _ _ _ _ _ (k + m) _ (L ++ [_]) _ ?_ (by omega) k4 (tq_more HP.out.1 HT.out (by show (1 : UInt8) ≠ 0; decide) (by show (1 : UInt8) ≠ 4; decide) rfl) (by omega)
          omega
      · have hc46 : c = 46 := by
          have h : ((T[k].toNat : Int) == 46) = true := ‹((T[k].toNat : Int) == 46) = true›
          rw [← HcT.out, beq_iff_eq] at h
          exact UInt8.toNat_inj.1 (by show c.toNat = 46; omega)
        have hk1 : k + 1 ≤ T.size := by omega
        have HT : Hid (tok (T.data.toList.drop i) = ⟨1, c :: T.data.toList.drop (k + 1), T.data.toList.drop (k + 1), lfS (BitVec.allOnes 256)⟩) := by
          have := HD.out.2.2
          rw [Hid]
          rw [hc46] at this ⊢
          exact rt_dot _ _ this
        have HC : Hid _ := tkcs_lfS T.size k (BitVec.allOnes 256) (c :: T.data.toList.drop (k + 1)) (T.data.toList.drop (k + 1)) HD.out.2.1
        have hfu : ∀ W, _ := fun W => full_any W
        generalize BitVec.allOnes 256 = AO at *
        clear hc46 hlet hpf hix
        refine (hfu _).mono ?_; rintro e w2 ⟨rfl, hb2⟩; have bT : Hid _ := bT0.out.1.below hb2 (by simp); have KT : Hid _ := bT0.out.2.below hb2; clear hb2
        go_wp2_with (first
          | (refine wpList_store_part rfl 27 _ _ rfl w1.heap.size 2 _ rfl rfl 47 _ bT.out (by simp) Tryd.info27 (by simp [Value.oneCell']) ?_; intro w3 hx3 hg3; have KT3 : Hid _ := KT.out.box HB.out HW.out hg3; rw [setl7] at hx3; have bT3 : Hid _ := hx3; have hcl3 := hx3.cell; clear hx3 hg3)
          | (at_builtin; refine wpList_app_tk rfl _ _ rfl KT3.out rfl (H := w3.heap.size) rfl rfl HC.out hLn ?_; intro g4 cap4 w9 k4))
        refine HJJ.out _ _ _ _ _ _ _ _ _ _ _ _ _ _ _ _ _ _ _ _ _ _ _ _ _ _ _ _ _ _ _ _ _ _ _ _ _ _ _ _ _ _ _ _ _ _ _ _ _ _ _ _ _ _ _ _ _ _ _ _ _ _ _ _ _ _ _ _ _ _ _ _ _ _ _ _ _ _ _ _ _ _ _ _ _ _ _ _ _ _ _ _ _ _ _ _ _ _ _ _ _ _ _ _ _ _ _ _ _ _ _ _ _ _ _ _ _ _ _ _ _ _ _ _ _ _ _ _ _ _ _ _ _ _ _ _ _ _ _ _ _ _ _ _ _ _ _ _ _ _ _ _ _ _ _ _ _ _ _ _ _ _ _ _ _ _ _ _ _ _ _ _ _ _ _ _ _ _ _ _ (k + 1) _ (L ++ [_]) _ ?_ (by omega) k4 (tq_more HP.out.1 HT.out (by show (1 : UInt8) ≠ 0; decide) (by show (1 : UInt8) ≠ 4; decide) rfl) (by omega)
        omega
      · have hn39 : ¬ c = 39 := fun h0 => by
          have h : ((T[k].toNat : Int) == 39) = false := (‹((T[k].toNat : Int) == 39) = false ∧ ((T[k].toNat : Int) == 34) = false›).1
          rw [← HcT.out, h0] at h; revert h; decide
        have hn34 : ¬ c = 34 := fun h0 => by
          have h : ((T[k].toNat : Int) == 34) = false := (‹((T[k].toNat : Int) == 39) = false ∧ ((T[k].toNat : Int) == 34) = false›).2
          rw [← HcT.out, h0] at h; revert h; decide
        have hn91 : ¬ c = 91 := fun h0 => by
          have h : ((T[k].toNat : Int) == 91) = false := ‹((T[k].toNat : Int) == 91) = false›
          rw [← HcT.out, h0] at h; revert h; decide
        have hn46 : ¬ c = 46 := fun h0 => by
          have h : ((T[k].toNat : Int) == 46) = false := ‹((T[k].toNat : Int) == 46) = false›
          rw [← HcT.out, h0] at h; revert h; decide
        have hA : ¬ (c = 39 ∨ c = 34) := fun h => h.elim hn39 hn34
        cases hL : isL (c.toNat : Int) with
        | true =>
          have htk := rt_name _ c _ HD.out.2.2 hL
          rw [← HD.out.1] at htk
          have hokc : okc c = true := by unfold okc; rw [hL]; rfl
          obtain ⟨z, hz⟩ : ∃ z, z = (T.data.toList.drop k).takeWhile okc := ⟨_, rfl⟩
          have hz1 : 1 ≤ z.length := by rw [hz, HD.out.1, List.takeWhile_cons, hokc]; simp
          have hz2 : k + z.length ≤ T.size := by
            have h1 := (List.takeWhile_prefix (p := okc) (l := T.data.toList.drop k)).length_le
            rw [← hz, List.length_drop, llen] at h1
            omega
          rw [← hz, List.drop_drop] at htk
          obtain ⟨k2, hk2a, hk2b, hsk2, hbl2⟩ := rblank_at T (k + z.length) (by omega) hz2
          have HZ : Hid (z = (T.data.toList.drop k).takeWhile okc) := hz
          have HT : Hid (tok (T.data.toList.drop i) = ⟨1, T.data.toList.drop k, T.data.toList.drop (k + z.length), lfT 4 z⟩) := htk
          rw [hL] at hlet
          have hex : (⟨z.toArray⟩ : ByteArray) = T.extract k (k + z.length) := by
            apply ByteArray.ext
            apply Array.ext'
            rw [ByteArray.data_extract, Array.toList_extract, List.extract_eq_take_drop]
            show z = _
            rw [show k + z.length - k = z.length from by omega, hz, take_takeWhile]
          have HX : Hid ((⟨z.toArray⟩ : ByteArray) = T.extract k (k + z.length)) := hex
          have BN : Hid _ := BoxN.new w1 47 #[.int .u8 110, .int .i64 k, .int .i64 0, .int .u64 0, .int .u64 0, .int .u64 0, .int .u64 0, .string ⟨#[]⟩, .slice none 0 0, .string (T.extract k (k + z.length))]
          have hle : ∀ (x : Int) (W : World), Calls Tryd.prog 32 #[.int .u8 x] W fun e w' => e = .returned (.bool (isL x)) ∧ w' = W := letter22
          have hdi : ∀ (x : Int) (W : World), Calls Tryd.prog 33 #[.int .u8 x] W fun e w' => e = .returned (.bool (isD x)) ∧ w' = W := digit23
          have HDL : k + (T.data.toList.drop k).length = T.size := by rw [List.length_drop, llen]; omega
          have HC : Hid ((#[.int .u8 110, .int .i64 k, .int .i64 4, .int .u64 0, .int .u64 0, .int .u64 0, .int .u64 0, .string (T.extract k (k + z.length)), .slice none 0 0, .string (T.extract k (k + z.length))] : Array Value) = tkcs T.size ⟨1, T.data.toList.drop k, T.data.toList.drop (k + z.length), lfT 4 z⟩) := by
            rw [Hid, ← HX.out]
            exact tkcs_name T.size k 1 110 z (T.data.toList.drop k) _ HDL rfl
          have hLn' : L.length ≤ 2000000 := hLn
          clear hLn htk hz hex hsk2 hL hpf hix
          refine (hlet _).mono ?_; rintro e w2 ⟨rfl, rfl⟩
          go_wp2_with fail
          go_loopw [8] (fun v wx => ∃ n : Nat, v = .int .i64 n ∧ 1 ≤ n ∧ k + n ≤ T.size ∧ Hid (z.length = n + ((T.data.toList.drop (k + n)).takeWhile okc).length) ∧ wx = w1.alloc (.cells #[.int .u8 110, .int .i64 k, .int .i64 0, .int .u64 0, .int .u64 0, .int .u64 0, .int .u64 0, .string ⟨#[]⟩, .slice none 0 0, .string ⟨#[]⟩] 47)) (fun v _ => T.size - (intOf v).toNat)
          case atStart =>
            refine ⟨1, rfl, Nat.le_refl _, by omega, ?_, rfl⟩
            rw [Hid, HZ.out, HD.out.1, List.takeWhile_cons, hokc]
            simp; omega
          case round =>
            obtain ⟨n, rfl, hn1, hn2, HN, rfl⟩ := hrel
            by_cases hend : k + n = T.size
            · have gE : decide (k + n < T.size) = false := decide_eq_false (by omega)
              have gE' : decide ((k : Int) + n < (T.size : Int)) = false := decide_eq_false (by omega)
              obtain rfl : n = z.length := by
                have := HN.out
                rw [List.drop_eq_nil_of_le (by rw [llen]; omega)] at this
                simpa using this.symm
              clear hend HN
              go_wp2_with (first
                | (go_at_call 28; refine (hbl2 _).mono ?_; rintro e w3 ⟨rfl, rfl⟩)
                | (refine wpList_store_part rfl 27 _ _ rfl w1.heap.size 2 _ rfl rfl 47 _ BN.out (by simp) Tryd.info27 (by simp [Value.oneCell']) ?_; intro w4 hx4 hg4; have KT4 : Hid _ := (HK.out.alloc _).box HB.out HW.out hg4; rw [setl7] at hx4; have bT4 : Hid _ := hx4; have hcl4 := hx4.cell; clear hx4 hg4)
                | (at_builtin; refine wpList_app_tk rfl _ _ rfl KT4.out rfl (H := w3.heap.size) rfl rfl HC.out hLn' ?_; intro g4 cap4 w6 k4))
              refine HJJ.out _ _ _ _ _ _ _ _ _ _ _ _ _ _ _ _ _ _ _ _ _ _ _ _ _ _ _ _ _ _ _ _ _ _ _ _ _ _ _ _ _ _ _ _ _ _ _ _ _ _ _ _ _ _ _ _ _ _ _ _ _ _ _ _ _ _ _ _ _ _ _ _ _ _ _ _ _ _ _ _ _ _ _ _ _ _ _ _ _ _ _ _ _ _ _ _ _ _ _ _ _ _ _ _ _ _ _ _ _ _ _ _ _ _ _ _ _ _ _ _ _ _ _ _ _ _ _ _ _ _ _ _ _ _ _ _ _ _ _ _ _ _ _ _ _ _ _ _ _ _ _ _ _ _ _ _ _ _ _ _ _ _ _ _ _ _ _ _ _ _ _ _ _ _ _ _ _ _ _ _ (k + z.length) _ (L ++ [_]) _ ?_ (by omega) k4 (tq_more HP.out.1 HT.out (by show (1 : UInt8) ≠ 0; decide) (by show (1 : UInt8) ≠ 4; decide) rfl) (by omega)
              omega
            · have hln : k + n < T.size := by omega
              have hlni : (k : Int) + n < T.size := by omega
              have gE : decide (k + n < T.size) = true := decide_eq_true hln
              have gE' : decide ((k : Int) + n < (T.size : Int)) = true := decide_eq_true hlni
              have hdn := drop_get T (k + n) hln
              clear hend
              cases hLn : isL (T[k + n].toNat : Int) with
              | true =>
                have HN2 : Hid (z.length = (n + 1) + ((T.data.toList.drop (k + (n + 1))).takeWhile okc).length) := by
                  have := HN.out
                  rw [hdn, List.takeWhile_cons, show okc T[k + n] = true from by unfold okc; rw [hLn]; rfl, if_pos rfl, List.length_cons] at this
                  rw [Hid, this]; show _ = n + 1 + ((T.data.toList.drop (k + n + 1)).takeWhile okc).length; omega
                have hle1 : ∀ W, _ := fun W => hle (T[k + n].toNat : Int) W
                rw [hLn] at hle1
                clear HN hdn hLn
                go_wp2_with (first
                  | (go_at_call 32; refine (hle1 _).mono ?_; rintro e w3 ⟨rfl, rfl⟩))
                go_roundw
                case measure => simp [intOf]; omega
                case rel => exact ⟨n + 1, by go_num, by omega, by omega, HN2, by first | rfl | trivial⟩
              | false =>
                have hle1 : ∀ W, _ := fun W => hle (T[k + n].toNat : Int) W
                have hdi1 : ∀ W, _ := fun W => hdi (T[k + n].toNat : Int) W
                rw [hLn] at hle1
                cases hDn : isD (T[k + n].toNat : Int) with
                | true =>
                  have HN2 : Hid (z.length = (n + 1) + ((T.data.toList.drop (k + (n + 1))).takeWhile okc).length) := by
                    have := HN.out
                    rw [hdn, List.takeWhile_cons, show okc T[k + n] = true from by unfold okc; rw [hLn, hDn]; rfl, if_pos rfl, List.length_cons] at this
                    rw [Hid, this]; show _ = n + 1 + ((T.data.toList.drop (k + n + 1)).takeWhile okc).length; omega
                  rw [hDn] at hdi1
                  clear HN hdn hLn hDn
                  go_wp2_with (first
                    | (go_at_call 32; refine (hle1 _).mono ?_; rintro e w3 ⟨rfl, rfl⟩)
                    | (go_at_call 33; refine (hdi1 _).mono ?_; rintro e w3 ⟨rfl, rfl⟩))
                  go_roundw
                  case measure => simp [intOf]; omega
                  case rel => exact ⟨n + 1, by go_num, by omega, by omega, HN2, by first | rfl | trivial⟩
                | false =>
                  have hzn : n = z.length := by
                    have := HN.out
                    rw [hdn, List.takeWhile_cons, show okc T[k + n] = false from by unfold okc; rw [hLn, hDn]; rfl] at this
                    simpa using this.symm
                  rw [hDn] at hdi1
                  clear HN hdn hLn hDn
                  subst hzn
                  go_wp2_with (first
                    | (go_at_call 32; refine (hle1 _).mono ?_; rintro e w3 ⟨rfl, rfl⟩)
                    | (go_at_call 33; refine (hdi1 _).mono ?_; rintro e w3 ⟨rfl, rfl⟩)
                    | (go_at_call 28; refine (hbl2 _).mono ?_; rintro e w3 ⟨rfl, rfl⟩)
                    | (refine wpList_store_part rfl 27 _ _ rfl w1.heap.size 2 _ rfl rfl 47 _ BN.out (by simp) Tryd.info27 (by simp [Value.oneCell']) ?_; intro w4 hx4 hg4; have KT4 : Hid _ := (HK.out.alloc _).box HB.out HW.out hg4; rw [setl7] at hx4; have bT4 : Hid _ := hx4; have hcl4 := hx4.cell; clear hx4 hg4)
                    | (at_builtin; refine wpList_app_tk rfl _ _ rfl KT4.out rfl (H := w3.heap.size) rfl rfl HC.out hLn' ?_; intro g4 cap4 w6 k4))
                  refine HJJ.out _ _ _ _ _ _ _ _ _ _ _ _ _ _ _ _ _ _ _ _ _ _ _ _ _ _ _ _ _ _ _ _ _ _ _ _ _ _ _ _ _ _ _ _ _ _ _ _ _ _ _ _ _ _ _ _ _ _ _ _ _ _ _ _ _ _ _ _ _ _ _ _ _ _ _ _ _ _ _ _ _ _ _ _ _ _ _ _ _ _ _ _ _ _ _ _ _ _ _ _ _ _ _ _ _ _ _ _ _ _ _ _ _ _ _ _ _ _ _ _ _ _ _ _ _ _ _ _ _ _ _ _ _ _ _ _ _ _ _ _ _ _ _ _ _ _ _ _ _ _ _ _ _ _ _ _ _ _ _ _ _ _ _ _ _ _ _ _ _ _ _ _ _ _ _ _ _ _ _ _ (k + z.length) _ (L ++ [_]) _ ?_ (by omega) k4 (tq_more HP.out.1 HT.out (by show (1 : UInt8) ≠ 0; decide) (by show (1 : UInt8) ≠ 4; decide) rfl) (by omega)
                  omega
        | false =>
          have hL0 := hL
          rw [hL] at hlet
          clear hL
          by_cases hR : c = 60 ∧ (T.data.toList.drop (k + 1)).headD 0 = 45
          · refine (hlet _).mono ?_; rintro e w2 ⟨rfl, rfl⟩
            obtain ⟨r60, r45⟩ := hR
            have hk2 : k + 2 ≤ T.size ∧ T.data.toList.drop (k + 1) = 45 :: T.data.toList.drop (k + 2) := by
              by_cases h : k + 1 < T.size
              · have hg := drop_get T (k + 1) h
                rw [hg] at r45
                exact ⟨by omega, by rw [hg, show T[k + 1] = 45 from r45]⟩
              · rw [List.drop_eq_nil_of_le (by rw [llen]; omega)] at r45
                exact absurd r45 (by decide)
            have HT : Hid (tok (T.data.toList.drop i) = ⟨2, c :: T.data.toList.drop (k + 1), T.data.toList.drop (k + 2), nd 0 []⟩) := by
              have := HD.out.2.2
              rw [r60, hk2.2] at this
              rw [Hid, r60, hk2.2]; exact rt_arrow _ _ this
            have HC : Hid _ := tkcs_nd T.size k 2 60 (c :: T.data.toList.drop (k + 1)) (T.data.toList.drop (k + 2)) HD.out.2.1 rfl
            have hk2' : k + 2 ≤ T.size := hk2.1
            rw [decide_eq_true ⟨r60, r45⟩] at hpf
            clear hk2 r60 r45 hix hA hn39 hn34 hn91 hn46 hL0
            go_wp2_with (first
              | (go_at_call 34; refine (hpf _).mono ?_; rintro e w2 ⟨rfl, rfl⟩)
              | (at_builtin; refine wpList_app_tk rfl _ _ rfl (HK.out.alloc _) rfl (H := w1.heap.size + 1) (by simp) rfl HC.out hLn ?_; intro g4 cap4 w9 k4))
            refine HJJ.out _ _ _ _ _ _ _ _ _ _ _ _ _ _ _ _ _ _ _ _ _ _ _ _ _ _ _ _ _ _ _ _ _ _ _ _ _ _ _ _ _ _ _ _ _ _ _ _ _ _ _ _ _ _ _ _ _ _ _ _ _ _ _ _ _ _ _ _ _ _ _ _ _ _ _ _ _ _ _ _ _ _ _ _ _ _ _ _ _ _ _ _ _ _ _ _ _ _ _ _ _ _ _ _ _ _ _ _ _ _ _ _ _ _ _ _ _ _ _ _ _ _ _ _ _ _ _ _ _ _ _ _ _ _ _ _ _ _ _ _ _ _ _ _ _ _ _ _ _ _ _ _ _ _ _ _ _ _ _ _ _ _ _ _ _ _ _ _ _ _ _ _ _ _ _ _ _ _ _ _ (k + 2) _ (L ++ [_]) _ ?_ (by omega) k4 (tq_more HP.out.1 HT.out (by show (2 : UInt8) ≠ 0; decide) (by show (2 : UInt8) ≠ 4; decide) rfl) (by omega)
            omega
          · rw [decide_eq_false hR] at hpf
            refine (hlet _).mono ?_; rintro e w2 ⟨rfl, rfl⟩
            go_wp2_with (first
              | (go_at_call 34; refine (hpf _).mono ?_; rintro e w2 ⟨rfl, rfl⟩))
            cases hS : isSg c with
            | true =>
              by_cases h33 : c = 33
              · have hk1 : k + 1 ≤ T.size := by omega
                have h60 : ¬ c = 60 := by rintro rfl; exact absurd hS (by decide)
                have HT : Hid (tok (T.data.toList.drop i) = ⟨c, c :: T.data.toList.drop (k + 1), T.data.toList.drop (k + 1), nd 0 []⟩) := rt_sign _ c _ HD.out.2.2 hS
                have HN : Hid (c ≠ 0 ∧ c ≠ 4) := ⟨by rintro rfl; exact absurd hS (by decide), by rintro rfl; exact absurd hS (by decide)⟩
                have gq : decide (q ≥ 0) = true := by have h := HQ.out; rw [hS] at h; exact h
                have g33 : ((T[k].toNat : Int) == 33) = true := by rw [← HcT.out, h33]; rfl
                have HC : Hid _ := tkcs_nd T.size k c 126 (c :: T.data.toList.drop (k + 1)) (T.data.toList.drop (k + 1)) HD.out.2.1 (by rw [h33]; rfl)
                clear h60 h33 hS hA hn39 hn34 hn91 hn46 hL0 hR
                refine (hix _).mono ?_; rintro e w2 ⟨rfl, rfl⟩
                go_wp2_with (first
                  | (at_builtin; refine wpList_app_tk rfl _ _ rfl (HK.out.alloc _) rfl (H := w1.heap.size + 1) (by simp) rfl HC.out hLn ?_; intro g4 cap4 w9 k4))
                refine HJJ.out _ _ _ _ _ _ _ _ _ _ _ _ _ _ _ _ _ _ _ _ _ _ _ _ _ _ _ _ _ _ _ _ _ _ _ _ _ _ _ _ _ _ _ _ _ _ _ _ _ _ _ _ _ _ _ _ _ _ _ _ _ _ _ _ _ _ _ _ _ _ _ _ _ _ _ _ _ _ _ _ _ _ _ _ _ _ _ _ _ _ _ _ _ _ _ _ _ _ _ _ _ _ _ _ _ _ _ _ _ _ _ _ _ _ _ _ _ _ _ _ _ _ _ _ _ _ _ _ _ _ _ _ _ _ _ _ _ _ _ _ _ _ _ _ _ _ _ _ _ _ _ _ _ _ _ _ _ _ _ _ _ _ _ _ _ _ _ _ _ _ _ _ _ _ _ _ _ _ _ _ (k + 1) _ (L ++ [_]) _ ?_ (by omega) k4 (tq_more HP.out.1 HT.out HN.out.1 HN.out.2 rfl) (by omega)
                omega
              · have hk1 : k + 1 ≤ T.size := by omega
                have h60 : ¬ c = 60 := by rintro rfl; exact absurd hS (by decide)
                have HT : Hid (tok (T.data.toList.drop i) = ⟨c, c :: T.data.toList.drop (k + 1), T.data.toList.drop (k + 1), nd 0 []⟩) := rt_sign _ c _ HD.out.2.2 hS
                have HN : Hid (c ≠ 0 ∧ c ≠ 4) := ⟨by rintro rfl; exact absurd hS (by decide), by rintro rfl; exact absurd hS (by decide)⟩
                have gq : decide (q ≥ 0) = true := by have h := HQ.out; rw [hS] at h; exact h
                have g33 : ((T[k].toNat : Int) == 33) = false := by rw [← HcT.out]; exact ne_int h33 (by decide)
                have HC : Hid _ := tkcs_nd T.size k c T[k] (c :: T.data.toList.drop (k + 1)) (T.data.toList.drop (k + 1)) HD.out.2.1 (by rw [← HcT.out]; exact rk_sign c hS h33)
                clear h60 h33 hS hA hn39 hn34 hn91 hn46 hL0 hR
                refine (hix _).mono ?_; rintro e w2 ⟨rfl, rfl⟩
                go_wp2_with (first
                  | (at_builtin; refine wpList_app_tk rfl _ _ rfl (HK.out.alloc _) rfl (H := w1.heap.size + 1) (by simp) rfl HC.out hLn ?_; intro g4 cap4 w9 k4))
                refine HJJ.out _ _ _ _ _ _ _ _ _ _ _ _ _ _ _ _ _ _ _ _ _ _ _ _ _ _ _ _ _ _ _ _ _ _ _ _ _ _ _ _ _ _ _ _ _ _ _ _ _ _ _ _ _ _ _ _ _ _ _ _ _ _ _ _ _ _ _ _ _ _ _ _ _ _ _ _ _ _ _ _ _ _ _ _ _ _ _ _ _ _ _ _ _ _ _ _ _ _ _ _ _ _ _ _ _ _ _ _ _ _ _ _ _ _ _ _ _ _ _ _ _ _ _ _ _ _ _ _ _ _ _ _ _ _ _ _ _ _ _ _ _ _ _ _ _ _ _ _ _ _ _ _ _ _ _ _ _ _ _ _ _ _ _ _ _ _ _ _ _ _ _ _ _ _ _ _ _ _ _ _ (k + 1) _ (L ++ [_]) _ ?_ (by omega) k4 (tq_more HP.out.1 HT.out HN.out.1 HN.out.2 rfl) (by omega)
                omega
            | false =>
              have HT : Hid (tok (T.data.toList.drop i) = ⟨4, c :: T.data.toList.drop (k + 1), [], nd 0 []⟩) := rt_none _ c _ HD.out.2.2 hA hn91 hn46 hL0 hR hS
              have HC : Hid _ := tkcs_none T.size k (c :: T.data.toList.drop (k + 1)) HD.out.2.1
              have gq : decide (q ≥ 0) = false := by have h := HQ.out; rw [hS] at h; exact h
              clear hS hA hn39 hn34 hn91 hn46 hL0 hR
              refine (hix _).mono ?_; rintro e w2 ⟨rfl, rfl⟩
              go_wp2_with (first
                | (at_builtin; refine wpList_app_tk rfl _ _ rfl (HK.out.alloc _) rfl (H := w1.heap.size + 1) (by simp) rfl HC.out hLn ?_; intro g4 cap4 w9 k4))
              go_ret
              exact tq_end k4 HP.out.1 HT.out (.inr rfl)
end Go.Proofs.YtbeohmcmphebhaaDoor
