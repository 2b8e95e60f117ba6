import Derived.Test.YtomeocofnbnegaaDoorFirst
namespace Go.Proofs.YtomeocofnbnegaaDoor
open Go.RowKit
theorem isC_iff (b : UInt8) : isC b = (decide (128 ≤ b.toNat) && decide (b.toNat ≤ 191)) := by
  unfold isC
  rw [Bool.eq_iff_iff]
  simp
  omega
theorem w1 (b : UInt8) (r : List UInt8) (h : b.toNat < 128) : wid (b :: r) = 1 := by
  show widK (kind b) b r = 1
  have e : kind b = 1 := by unfold kind; rw [if_pos h]
  rw [e]; simp [widK]
theorem wBad (b : UInt8) (r : List UInt8) (h : (128 ≤ b.toNat ∧ b.toNat < 194) ∨ 245 ≤ b.toNat) : wid (b :: r) = 1 := by
  have hb := b.toNat_lt
  show widK (kind b) b r = 1
  unfold widK kind
  rw [if_neg (show ¬ b.toNat < 0x80 from by omega)]
  by_cases k2 : (b.toNat / 32 == 6) = true
  · rw [if_pos k2]
    simp at k2
    cases r with
    | nil => simp
    | cons b1 r =>
      have : ok2 b b1 = false := by unfold ok2; simp; intro _; omega
      simp [this]
  · rw [if_neg k2]
    simp at k2
    by_cases k3 : (b.toNat / 16 == 14) = true
    · simp at k3; omega
    · rw [if_neg k3]
      by_cases k4 : (b.toNat / 8 == 30) = true
      · rw [if_pos k4]
        simp at k4
        match r with
        | [] => simp
        | [_] => simp
        | [_, _] => simp
        | b1 :: b2 :: b3 :: r =>
          have : ok4 b b1 b2 b3 = false := by
            unfold ok4
            have hc : (1114111 : Int) < (c4 b b1 b2 b3 : Int) := by unfold c4; omega
            have : Utf8.valid (c4 b b1 b2 b3 : Int) = false := by unfold Utf8.valid; simp; omega
            rw [this]; simp
          simp [this]
      · rw [if_neg k4]; simp
theorem w2s (b : UInt8) (h : 194 ≤ b.toNat ∧ b.toNat < 224) : wid [b] = 1 := by
  show widK (kind b) b [] = 1
  have e : kind b = 2 := by unfold kind; rw [if_neg (by omega), if_pos (by simp; omega)]
  rw [e]; simp [widK]
theorem w2 (b b1 : UInt8) (r : List UInt8) (h : 194 ≤ b.toNat ∧ b.toNat < 224) : wid (b :: b1 :: r) = if 128 ≤ b1.toNat ∧ b1.toNat ≤ 191 then 2 else 1 := by
  show widK (kind b) b (b1 :: r) = _
  have e : kind b = 2 := by unfold kind; rw [if_neg (by omega), if_pos (by simp; omega)]
  rw [e]
  simp only [widK, ok2, isC_iff]
  by_cases h1 : 128 ≤ b1.toNat ∧ b1.toNat ≤ 191
  · rw [if_pos h1]
    have : b.toNat % 32 * 64 + b1.toNat % 64 ≥ 0x80 := by omega
    simp [h1.1, h1.2, this]
  · rw [if_neg h1]
    have : (decide (128 ≤ b1.toNat) && decide (b1.toNat ≤ 191)) = false := by simp; omega
    simp [this]
theorem kind3 (b : UInt8) (h : 224 ≤ b.toNat ∧ b.toNat < 240) : kind b = 3 := by
  unfold kind; rw [if_neg (by omega), if_neg (by simp; omega), if_pos (by simp; omega)]
theorem kind4 (b : UInt8) (h : 240 ≤ b.toNat ∧ b.toNat < 245) : kind b = 4 := by
  unfold kind; rw [if_neg (by omega), if_neg (by simp; omega), if_neg (by simp; omega), if_pos (by simp; omega)]
theorem w3s (b : UInt8) (r : List UInt8) (h : 224 ≤ b.toNat ∧ b.toNat < 240) (hr : r.length < 2) : wid (b :: r) = 1 := by
  show widK (kind b) b r = 1
  rw [kind3 b h]
  match r, hr with
  | [], _ => simp [widK]
  | [_], _ => simp [widK]
theorem w4s (b : UInt8) (r : List UInt8) (h : 240 ≤ b.toNat ∧ b.toNat < 245) (hr : r.length < 3) : wid (b :: r) = 1 := by
  show widK (kind b) b r = 1
  rw [kind4 b h]
  match r, hr with
  | [], _ => simp [widK]
  | [_], _ => simp [widK]
  | [_, _], _ => simp [widK]
theorem w3 (b b1 b2 : UInt8) (r : List UInt8) (h : 224 ≤ b.toNat ∧ b.toNat < 240) :
    wid (b :: b1 :: b2 :: r) = if (128 ≤ b1.toNat ∧ b1.toNat ≤ 191) ∧ (128 ≤ b2.toNat ∧ b2.toNat ≤ 191) ∧ 2048 ≤ c3 b b1 b2 ∧ (c3 b b1 b2 < 55296 ∨ 57344 ≤ c3 b b1 b2) then 3 else 1 := by
  show widK (kind b) b (b1 :: b2 :: r) = _
  rw [kind3 b h]
  have hc : c3 b b1 b2 ≤ 65535 := by unfold c3; omega
  simp only [widK, ok3, isC_iff, Utf8.valid]
  generalize c3 b b1 b2 = n at hc
  have e : ((decide (128 ≤ b1.toNat) && decide (b1.toNat ≤ 191)) && (decide (128 ≤ b2.toNat) && decide (b2.toNat ≤ 191)) && (decide (n ≥ 0x800) && (decide (0 ≤ (n : Int)) && decide ((n : Int) < 0xD800) || decide (0xE000 ≤ (n : Int)) && decide ((n : Int) ≤ 0x10FFFF)))) = decide ((128 ≤ b1.toNat ∧ b1.toNat ≤ 191) ∧ (128 ≤ b2.toNat ∧ b2.toNat ≤ 191) ∧ 2048 ≤ n ∧ (n < 55296 ∨ 57344 ≤ n)) := by
    rw [Bool.eq_iff_iff]; simp; omega
  rw [e]
  simp
theorem w4 (b b1 b2 b3 : UInt8) (r : List UInt8) (h : 240 ≤ b.toNat ∧ b.toNat < 245) :
    wid (b :: b1 :: b2 :: b3 :: r) = if (128 ≤ b1.toNat ∧ b1.toNat ≤ 191) ∧ (128 ≤ b2.toNat ∧ b2.toNat ≤ 191) ∧ (128 ≤ b3.toNat ∧ b3.toNat ≤ 191) ∧ 65536 ≤ c4 b b1 b2 b3 ∧ c4 b b1 b2 b3 ≤ 1114111 then 4 else 1 := by
  show widK (kind b) b (b1 :: b2 :: b3 :: r) = _
  rw [kind4 b h]
  simp only [widK, ok4, isC_iff, Utf8.valid]
  generalize c4 b b1 b2 b3 = n
  have e : ((decide (128 ≤ b1.toNat) && decide (b1.toNat ≤ 191)) && (decide (128 ≤ b2.toNat) && decide (b2.toNat ≤ 191)) && (decide (128 ≤ b3.toNat) && decide (b3.toNat ≤ 191)) && (decide (n ≥ 0x10000) && (decide (0 ≤ (n : Int)) && decide ((n : Int) < 0xD800) || decide (0xE000 ≤ (n : Int)) && decide ((n : Int) ≤ 0x10FFFF)))) = decide ((128 ≤ b1.toNat ∧ b1.toNat ≤ 191) ∧ (128 ≤ b2.toNat ∧ b2.toNat ≤ 191) ∧ (128 ≤ b3.toNat ∧ b3.toNat ≤ 191) ∧ 65536 ≤ n ∧ n ≤ 1114111) := by
    rw [Bool.eq_iff_iff]; simp; omega
  rw [e]
  simp

def firstPost (t : List UInt8) (w : World) (e : Ending) (w' : World) : Prop := ∃ n : Nat, e = .returned (.int .i64 n) ∧ max 1 n = wid t ∧ n ≤ 4 ∧ w' = w
theorem post_of {t : List UInt8} {w : World} {s : ByteArray} (n : Nat) (hn : n ≤ 4) (hw : max 1 n = wid t) (h : Calls Tryd.prog 23 #[.string s] w fun e w' => e = .returned (.int .i64 n) ∧ w' = w) :
    Calls Tryd.prog 23 #[.string s] w (firstPost t w) :=
  h.mono fun _ _ ⟨h1, h2⟩ => ⟨n, h1, hw, hn, h2⟩
theorem first_list (t : List UInt8) (ht : t ≠ []) (w : World) : Calls Tryd.prog 23 #[.string ⟨⟨t⟩⟩] w (firstPost t w) := by
  match t, ht with
  | b0 :: r, _ =>
    have z0 : 0 < (⟨⟨b0 :: r⟩⟩ : ByteArray).size := by show 0 < (b0 :: r).length; simp
    have hlt := b0.toNat_lt
    by_cases a1 : b0.toNat < 128
    · exact post_of 1 (by omega) (by rw [w1 b0 r a1]; rfl) (f1 _ w z0 (by show (0 : Int) ≤ (b0.toNat : Int); omega) (by show (b0.toNat : Int) < 128; omega))
    by_cases a2 : b0.toNat < 194
    · exact post_of 0 (by omega) (by rw [wBad b0 r (by omega)]; rfl) (fbadA _ w z0 (by show (128 : Int) ≤ (b0.toNat : Int); omega) (by show (b0.toNat : Int) < 194; omega))
    by_cases a3 : 245 ≤ b0.toNat
    · exact post_of 0 (by omega) (by rw [wBad b0 r (by omega)]; rfl) (fbadB _ w z0 (by show (245 : Int) ≤ (b0.toNat : Int); omega) (by show (b0.toNat : Int) < 256; omega))
    by_cases a4 : b0.toNat < 224
    · have i1 : (194 : Int) ≤ (b0.toNat : Int) := by omega
      have i2 : (b0.toNat : Int) < 224 := by omega
      match r with
      | [] => exact post_of 0 (by omega) (by rw [w2s b0 (by omega)]; rfl) (f2short _ w z0 i1 i2 (by show (([b0].length : Nat) : Int) < 2; simp))
      | b1 :: r =>
        have z1 : 1 < (⟨⟨b0 :: b1 :: r⟩⟩ : ByteArray).size := by show 1 < (b0 :: b1 :: r).length; simp
        have hw := w2 b0 b1 r (by omega)
        by_cases c1 : b1.toNat < 128
        · exact post_of 0 (by omega) (by rw [hw, if_neg (by omega)]; rfl) (f2lo _ w z0 i1 i2 z1 (by show (b1.toNat : Int) < 128; omega))
        by_cases c2 : 191 < b1.toNat
        · exact post_of 0 (by omega) (by rw [hw, if_neg (by omega)]; rfl) (f2hi _ w z0 i1 i2 z1 (by show (191 : Int) < (b1.toNat : Int); omega))
        · exact post_of 2 (by omega) (by rw [hw, if_pos (by omega)]; rfl) (f2ok _ w z0 i1 i2 z1 (by show (128 : Int) ≤ (b1.toNat : Int); omega) (by show (b1.toNat : Int) ≤ 191; omega))
    by_cases a5 : b0.toNat < 240
    · have i1 : (224 : Int) ≤ (b0.toNat : Int) := by omega
      have i2 : (b0.toNat : Int) < 240 := by omega
      match r with
      | [] => exact post_of 0 (by omega) (by rw [w3s b0 [] (by omega) (by simp)]; rfl) (f3short _ w z0 i1 i2 (by show (([b0].length : Nat) : Int) < 3; simp))
      | [b1] => exact post_of 0 (by omega) (by rw [w3s b0 [b1] (by omega) (by simp)]; rfl) (f3short _ w z0 i1 i2 (by show (([b0, b1].length : Nat) : Int) < 3; simp))
      | b1 :: b2 :: r =>
        have z1 : 1 < (⟨⟨b0 :: b1 :: b2 :: r⟩⟩ : ByteArray).size := by show 1 < (b0 :: b1 :: b2 :: r).length; simp
        have z2 : 2 < (⟨⟨b0 :: b1 :: b2 :: r⟩⟩ : ByteArray).size := by show 2 < (b0 :: b1 :: b2 :: r).length; simp
        have hw := w3 b0 b1 b2 r (by omega)
        by_cases c1 : b1.toNat < 128
        · exact post_of 0 (by omega) (by rw [hw, if_neg (by omega)]; rfl) (f3lo1 _ w z0 i1 i2 z1 z2 (by show (b1.toNat : Int) < 128; omega))
        by_cases c2 : 191 < b1.toNat
        · exact post_of 0 (by omega) (by rw [hw, if_neg (by omega)]; rfl) (f3hi1 _ w z0 i1 i2 z1 z2 (by show (191 : Int) < (b1.toNat : Int); omega))
        have p1 : (128 : Int) ≤ (b1.toNat : Int) := by omega
        have q1 : (b1.toNat : Int) ≤ 191 := by omega
        by_cases c3' : b2.toNat < 128
        · exact post_of 0 (by omega) (by rw [hw, if_neg (by omega)]; rfl) (f3lo2 _ w z0 i1 i2 z1 z2 p1 q1 (by show (b2.toNat : Int) < 128; omega))
        by_cases c4' : 191 < b2.toNat
        · exact post_of 0 (by omega) (by rw [hw, if_neg (by omega)]; rfl) (f3hi2 _ w z0 i1 i2 z1 z2 p1 q1 (by show (191 : Int) < (b2.toNat : Int); omega))
        have p2 : (128 : Int) ≤ (b2.toNat : Int) := by omega
        have q2 : (b2.toNat : Int) ≤ 191 := by omega
        have hV : IsV3 ⟨⟨b0 :: b1 :: b2 :: r⟩⟩ (c3 b0 b1 b2 : Int) := by
          intro _ _ _
          show (((b0.toNat : Int) % 16 * 64 + (b1.toNat : Int) % 64) * 64 + (b2.toNat : Int) % 64) = _
          unfold c3; omega
        generalize c3 b0 b1 b2 = n at hw hV
        by_cases d1 : n < 2048
        · exact post_of 0 (by omega) (by rw [hw, if_neg (by omega)]; rfl) (f3low _ w z0 i1 i2 z1 z2 p1 q1 p2 q2 _ hV (by omega))
        by_cases d2 : n < 55296
        · exact post_of 3 (by omega) (by rw [hw, if_pos (by omega)]; rfl) (f3okA _ w z0 i1 i2 z1 z2 p1 q1 p2 q2 _ hV (by omega) (by omega))
        by_cases d3 : n < 57344
        · exact post_of 0 (by omega) (by rw [hw, if_neg (by omega)]; rfl) (f3sur _ w z0 i1 i2 z1 z2 p1 q1 p2 q2 _ hV (by omega) (by omega))
        · exact post_of 3 (by omega) (by rw [hw, if_pos (by omega)]; rfl) (f3okB _ w z0 i1 i2 z1 z2 p1 q1 p2 q2 _ hV (by omega))
    · have i1 : (240 : Int) ≤ (b0.toNat : Int) := by omega
      have i2 : (b0.toNat : Int) < 245 := by omega
      match r with
      | [] => exact post_of 0 (by omega) (by rw [w4s b0 [] (by omega) (by simp)]; rfl) (f4short _ w z0 i1 i2 (by show (([b0].length : Nat) : Int) < 4; simp))
      | [b1] => exact post_of 0 (by omega) (by rw [w4s b0 [b1] (by omega) (by simp)]; rfl) (f4short _ w z0 i1 i2 (by show (([b0, b1].length : Nat) : Int) < 4; simp))
      | [b1, b2] => exact post_of 0 (by omega) (by rw [w4s b0 [b1, b2] (by omega) (by simp)]; rfl) (f4short _ w z0 i1 i2 (by show (([b0, b1, b2].length : Nat) : Int) < 4; simp))
      | b1 :: b2 :: b3 :: r =>
        have z1 : 1 < (⟨⟨b0 :: b1 :: b2 :: b3 :: r⟩⟩ : ByteArray).size := by show 1 < (b0 :: b1 :: b2 :: b3 :: r).length; simp
        have z2 : 2 < (⟨⟨b0 :: b1 :: b2 :: b3 :: r⟩⟩ : ByteArray).size := by show 2 < (b0 :: b1 :: b2 :: b3 :: r).length; simp
        have z3 : 3 < (⟨⟨b0 :: b1 :: b2 :: b3 :: r⟩⟩ : ByteArray).size := by show 3 < (b0 :: b1 :: b2 :: b3 :: r).length; simp
        have hw := w4 b0 b1 b2 b3 r (by omega)
        by_cases c1 : b1.toNat < 128
        · exact post_of 0 (by omega) (by rw [hw, if_neg (by omega)]; rfl) (f4lo1 _ w z0 i1 i2 z1 z2 z3 (by show (b1.toNat : Int) < 128; omega))
        by_cases c2 : 191 < b1.toNat
        · exact post_of 0 (by omega) (by rw [hw, if_neg (by omega)]; rfl) (f4hi1 _ w z0 i1 i2 z1 z2 z3 (by show (191 : Int) < (b1.toNat : Int); omega))
        have p1 : (128 : Int) ≤ (b1.toNat : Int) := by omega
        have q1 : (b1.toNat : Int) ≤ 191 := by omega
        by_cases c3' : b2.toNat < 128
        · exact post_of 0 (by omega) (by rw [hw, if_neg (by omega)]; rfl) (f4lo2 _ w z0 i1 i2 z1 z2 z3 p1 q1 (by show (b2.toNat : Int) < 128; omega))
        by_cases c4' : 191 < b2.toNat
        · exact post_of 0 (by omega) (by rw [hw, if_neg (by omega)]; rfl) (f4hi2 _ w z0 i1 i2 z1 z2 z3 p1 q1 (by show (191 : Int) < (b2.toNat : Int); omega))
        have p2 : (128 : Int) ≤ (b2.toNat : Int) := by omega
        have q2 : (b2.toNat : Int) ≤ 191 := by omega
        by_cases c5 : b3.toNat < 128
        · exact post_of 0 (by omega) (by rw [hw, if_neg (by omega)]; rfl) (f4lo3 _ w z0 i1 i2 z1 z2 z3 p1 q1 p2 q2 (by show (b3.toNat : Int) < 128; omega))
        by_cases c6 : 191 < b3.toNat
        · exact post_of 0 (by omega) (by rw [hw, if_neg (by omega)]; rfl) (f4hi3 _ w z0 i1 i2 z1 z2 z3 p1 q1 p2 q2 (by show (191 : Int) < (b3.toNat : Int); omega))
        have p3 : (128 : Int) ≤ (b3.toNat : Int) := by omega
        have q3 : (b3.toNat : Int) ≤ 191 := by omega
        have hV : IsV4 ⟨⟨b0 :: b1 :: b2 :: b3 :: r⟩⟩ (c4 b0 b1 b2 b3 : Int) := by
          intro _ _ _ _
          show ((((b0.toNat : Int) % 8 * 64 + (b1.toNat : Int) % 64) * 64 + (b2.toNat : Int) % 64) * 64 + (b3.toNat : Int) % 64) = _
          unfold c4; omega
        generalize c4 b0 b1 b2 b3 = n at hw hV
        by_cases d1 : n < 65536
        · exact post_of 0 (by omega) (by rw [hw, if_neg (by omega)]; rfl) (f4low _ w z0 i1 i2 z1 z2 z3 p1 q1 p2 q2 p3 q3 _ hV (by omega))
        by_cases d2 : 1114111 < n
        · exact post_of 0 (by omega) (by rw [hw, if_neg (by omega)]; rfl) (f4high _ w z0 i1 i2 z1 z2 z3 p1 q1 p2 q2 p3 q3 _ hV (by omega))
        · exact post_of 4 (by omega) (by rw [hw, if_pos (by omega)]; rfl) (f4ok _ w z0 i1 i2 z1 z2 z3 p1 q1 p2 q2 p3 q3 _ hV (by omega) (by omega))
/-- R.first: how many bytes the rune has with which a text begins. -/
theorem first_any (s : ByteArray) (w : World) (h : 0 < s.size) : Calls Tryd.prog 23 #[.string s] w (firstPost s.data.toList w) :=
  first_list s.data.toList (fun e => by have : s.data.toList.length = s.size := rfl; rw [e] at this; simp at this; omega) w
end Go.Proofs.YtomeocofnbnegaaDoor
