/- Walks: the second reader's token. -/
import Derived.Test.YtoieklacpkahbaaGreatDoorWalkR
namespace Go.Proofs.YtoieklacpkahbaaGreatDoor
open Go.RowKit
namespace Sc
theorem two_test {c : UInt8} {t suf T : List UInt8} {i : Nat} (hT : T.drop i = (c :: t) ++ suf) (hs : Suf suf) (x y : UInt8) (h0 : y ≠ 0) (h10 : y ≠ 10) : ((c :: t).take 2 == [x, y]) = ((c == x) && (T.getD (i + 1) 0 == y)) := by
  have hd : T.drop (i + 1) = t ++ suf := by rw [← List.drop_drop, hT]; rfl
  have hg : T.getD (i + 1) 0 = (t ++ suf).headD 0 := by
    rw [← hd, List.getD_eq_getElem?_getD, List.headD_eq_head?_getD, List.head?_drop]
  rw [hg]
  cases t with
  | nil =>
    have : ((([] : List UInt8) ++ suf).headD 0 == y) = false := by
      rcases hs with rfl | ⟨r, rfl⟩
      · simpa using Ne.symm h0
      · simpa using Ne.symm h10
    rw [this]; simp
  | cons d t => simp
theorem h0_cons (c : UInt8) (t : List UInt8) (n : Int) : Sc.h0 (c :: t) n = ((c.toNat : Int) == n) := rfl
end Sc

set_option maxHeartbeats 400000 in
theorem tok_40 (s : ByteArray) (i : Nat) (c : UInt8) (t suf : List UInt8) (w : World) (hs : s.size ≤ 4096) (hi : i < s.size) (hc : s[i] = c) (hT : s.data.toList.drop i = (c :: t) ++ suf) (hsf : Sc.Suf suf) (_hno : Sc.No10 (c :: t)) (kd : Int) (n : Nat) (er : Int) (HR : Hid (Sc.readTok (c :: t) = (kd, n, er))) (hcv : c = 40) :
    Calls Tryz.prog 95 #[.string s, .int .i64 i] w fun e w' => e = .returned (.tuple #[.int .i64 (Sc.rkOf kd er), .int .i64 (Sc.reOf i (c :: t).length kd n er)]) ∧ w' = w := by
  have hz := Sc.lsize s
  have h2 := fun x y => Sc.two_test hT hsf x y
  subst hcv
  have q40 : ((s[i].toNat : Int) == 40) = true := by rw [hc]; rfl
  have q41 : ((s[i].toNat : Int) == 41) = false := by rw [hc]; rfl
  have q39 : ((s[i].toNat : Int) == 39) = false := by rw [hc]; rfl
  have q96 : ((s[i].toNat : Int) == 96) = false := by rw [hc]; rfl
  have q44 : ((s[i].toNat : Int) == 44) = false := by rw [hc]; rfl
  have q59 : ((s[i].toNat : Int) == 59) = false := by rw [hc]; rfl
  have q35 : ((s[i].toNat : Int) == 35) = false := by rw [hc]; rfl
  have q34 : ((s[i].toNat : Int) == 34) = false := by rw [hc]; rfl
  have hr : Sc.readTok (40 :: t) = (2, 1, 0) := by
    unfold Sc.readTok
    rw [h2 35 40 (by decide) (by decide), h2 44 64 (by decide) (by decide), h2 35 59 (by decide) (by decide), h2 35 124 (by decide) (by decide)]
    simp [Sc.h0_cons]
  rw [HR.out] at hr
  simp only [Prod.mk.injEq] at hr
  obtain ⟨rfl, rfl, rfl⟩ := hr
  clear h2 HR
  generalize hdd : ((s.data.toList.getD (i + 1) 0).toNat : Int) = dd
  have HA : Hid (∀ W, Calls Tryz.prog 136 #[.string s, .int .i64 ((i : Int) + 1)] W fun e w' => e = .returned (.int .u8 dd) ∧ w' = W) := by
    intro W; have := at_any s (i + 1) W hs (by omega); rw [hdd] at this; exact this
  clear hdd
  go_enter Tryz.func95, Tryz.ntmps95
  go_wp2_with (go_at_call 136; refine (HA.out _).mono ?_; rintro e w1 ⟨rfl, hw1⟩; subst w1)
  go_ret2
  exact ⟨rfl, rfl⟩

set_option maxHeartbeats 400000 in
theorem tok_41 (s : ByteArray) (i : Nat) (c : UInt8) (t suf : List UInt8) (w : World) (hs : s.size ≤ 4096) (hi : i < s.size) (hc : s[i] = c) (hT : s.data.toList.drop i = (c :: t) ++ suf) (hsf : Sc.Suf suf) (_hno : Sc.No10 (c :: t)) (kd : Int) (n : Nat) (er : Int) (HR : Hid (Sc.readTok (c :: t) = (kd, n, er))) (hcv : c = 41) :
    Calls Tryz.prog 95 #[.string s, .int .i64 i] w fun e w' => e = .returned (.tuple #[.int .i64 (Sc.rkOf kd er), .int .i64 (Sc.reOf i (c :: t).length kd n er)]) ∧ w' = w := by
  have hz := Sc.lsize s
  have h2 := fun x y => Sc.two_test hT hsf x y
  subst hcv
  have q40 : ((s[i].toNat : Int) == 40) = false := by rw [hc]; rfl
  have q41 : ((s[i].toNat : Int) == 41) = true := by rw [hc]; rfl
  have q39 : ((s[i].toNat : Int) == 39) = false := by rw [hc]; rfl
  have q96 : ((s[i].toNat : Int) == 96) = false := by rw [hc]; rfl
  have q44 : ((s[i].toNat : Int) == 44) = false := by rw [hc]; rfl
  have q59 : ((s[i].toNat : Int) == 59) = false := by rw [hc]; rfl
  have q35 : ((s[i].toNat : Int) == 35) = false := by rw [hc]; rfl
  have q34 : ((s[i].toNat : Int) == 34) = false := by rw [hc]; rfl
  have hr : Sc.readTok (41 :: t) = (3, 1, 0) := by
    unfold Sc.readTok
    rw [h2 35 40 (by decide) (by decide), h2 44 64 (by decide) (by decide), h2 35 59 (by decide) (by decide), h2 35 124 (by decide) (by decide)]
    simp [Sc.h0_cons]
  rw [HR.out] at hr
  simp only [Prod.mk.injEq] at hr
  obtain ⟨rfl, rfl, rfl⟩ := hr
  clear h2 HR
  generalize hdd : ((s.data.toList.getD (i + 1) 0).toNat : Int) = dd
  have HA : Hid (∀ W, Calls Tryz.prog 136 #[.string s, .int .i64 ((i : Int) + 1)] W fun e w' => e = .returned (.int .u8 dd) ∧ w' = W) := by
    intro W; have := at_any s (i + 1) W hs (by omega); rw [hdd] at this; exact this
  clear hdd
  go_enter Tryz.func95, Tryz.ntmps95
  go_wp2_with (go_at_call 136; refine (HA.out _).mono ?_; rintro e w1 ⟨rfl, hw1⟩; subst w1)
  go_ret2
  exact ⟨rfl, rfl⟩

set_option maxHeartbeats 400000 in
theorem tok_39 (s : ByteArray) (i : Nat) (c : UInt8) (t suf : List UInt8) (w : World) (hs : s.size ≤ 4096) (hi : i < s.size) (hc : s[i] = c) (hT : s.data.toList.drop i = (c :: t) ++ suf) (hsf : Sc.Suf suf) (_hno : Sc.No10 (c :: t)) (kd : Int) (n : Nat) (er : Int) (HR : Hid (Sc.readTok (c :: t) = (kd, n, er))) (hcv : c = 39) :
    Calls Tryz.prog 95 #[.string s, .int .i64 i] w fun e w' => e = .returned (.tuple #[.int .i64 (Sc.rkOf kd er), .int .i64 (Sc.reOf i (c :: t).length kd n er)]) ∧ w' = w := by
  have hz := Sc.lsize s
  have h2 := fun x y => Sc.two_test hT hsf x y
  subst hcv
  have q40 : ((s[i].toNat : Int) == 40) = false := by rw [hc]; rfl
  have q41 : ((s[i].toNat : Int) == 41) = false := by rw [hc]; rfl
  have q39 : ((s[i].toNat : Int) == 39) = true := by rw [hc]; rfl
  have q96 : ((s[i].toNat : Int) == 96) = false := by rw [hc]; rfl
  have q44 : ((s[i].toNat : Int) == 44) = false := by rw [hc]; rfl
  have q59 : ((s[i].toNat : Int) == 59) = false := by rw [hc]; rfl
  have q35 : ((s[i].toNat : Int) == 35) = false := by rw [hc]; rfl
  have q34 : ((s[i].toNat : Int) == 34) = false := by rw [hc]; rfl
  have hr : Sc.readTok (39 :: t) = (4, 1, 0) := by
    unfold Sc.readTok
    rw [h2 35 40 (by decide) (by decide), h2 44 64 (by decide) (by decide), h2 35 59 (by decide) (by decide), h2 35 124 (by decide) (by decide)]
    simp [Sc.h0_cons]
  rw [HR.out] at hr
  simp only [Prod.mk.injEq] at hr
  obtain ⟨rfl, rfl, rfl⟩ := hr
  clear h2 HR
  generalize hdd : ((s.data.toList.getD (i + 1) 0).toNat : Int) = dd
  have HA : Hid (∀ W, Calls Tryz.prog 136 #[.string s, .int .i64 ((i : Int) + 1)] W fun e w' => e = .returned (.int .u8 dd) ∧ w' = W) := by
    intro W; have := at_any s (i + 1) W hs (by omega); rw [hdd] at this; exact this
  clear hdd
  go_enter Tryz.func95, Tryz.ntmps95
  go_wp2_with (go_at_call 136; refine (HA.out _).mono ?_; rintro e w1 ⟨rfl, hw1⟩; subst w1)
  go_ret2
  exact ⟨rfl, rfl⟩

set_option maxHeartbeats 400000 in
theorem tok_96 (s : ByteArray) (i : Nat) (c : UInt8) (t suf : List UInt8) (w : World) (hs : s.size ≤ 4096) (hi : i < s.size) (hc : s[i] = c) (hT : s.data.toList.drop i = (c :: t) ++ suf) (hsf : Sc.Suf suf) (_hno : Sc.No10 (c :: t)) (kd : Int) (n : Nat) (er : Int) (HR : Hid (Sc.readTok (c :: t) = (kd, n, er))) (hcv : c = 96) :
    Calls Tryz.prog 95 #[.string s, .int .i64 i] w fun e w' => e = .returned (.tuple #[.int .i64 (Sc.rkOf kd er), .int .i64 (Sc.reOf i (c :: t).length kd n er)]) ∧ w' = w := by
  have hz := Sc.lsize s
  have h2 := fun x y => Sc.two_test hT hsf x y
  subst hcv
  have q40 : ((s[i].toNat : Int) == 40) = false := by rw [hc]; rfl
  have q41 : ((s[i].toNat : Int) == 41) = false := by rw [hc]; rfl
  have q39 : ((s[i].toNat : Int) == 39) = false := by rw [hc]; rfl
  have q96 : ((s[i].toNat : Int) == 96) = true := by rw [hc]; rfl
  have q44 : ((s[i].toNat : Int) == 44) = false := by rw [hc]; rfl
  have q59 : ((s[i].toNat : Int) == 59) = false := by rw [hc]; rfl
  have q35 : ((s[i].toNat : Int) == 35) = false := by rw [hc]; rfl
  have q34 : ((s[i].toNat : Int) == 34) = false := by rw [hc]; rfl
  have hr : Sc.readTok (96 :: t) = (4, 1, 0) := by
    unfold Sc.readTok
    rw [h2 35 40 (by decide) (by decide), h2 44 64 (by decide) (by decide), h2 35 59 (by decide) (by decide), h2 35 124 (by decide) (by decide)]
    simp [Sc.h0_cons]
  rw [HR.out] at hr
  simp only [Prod.mk.injEq] at hr
  obtain ⟨rfl, rfl, rfl⟩ := hr
  clear h2 HR
  generalize hdd : ((s.data.toList.getD (i + 1) 0).toNat : Int) = dd
  have HA : Hid (∀ W, Calls Tryz.prog 136 #[.string s, .int .i64 ((i : Int) + 1)] W fun e w' => e = .returned (.int .u8 dd) ∧ w' = W) := by
    intro W; have := at_any s (i + 1) W hs (by omega); rw [hdd] at this; exact this
  clear hdd
  go_enter Tryz.func95, Tryz.ntmps95
  go_wp2_with (go_at_call 136; refine (HA.out _).mono ?_; rintro e w1 ⟨rfl, hw1⟩; subst w1)
  go_ret2
  exact ⟨rfl, rfl⟩

theorem tok_bk {T t' suf : List UInt8} {i : Nat} (hT : T.drop i = (35 :: 124 :: t') ++ suf) :
    Sc.rkOf (Sc.enK (Sc.blkLen (35 :: 124 :: t'))) (Sc.enE (Sc.blkLen (35 :: 124 :: t')) 4) = 1 ∧
    bkAt T (i + (35 :: 124 :: t').length) (i + 2) 1 = Sc.reOf i (35 :: 124 :: t').length (Sc.enK (Sc.blkLen (35 :: 124 :: t'))) (Sc.blkLen (35 :: 124 :: t')) (Sc.enE (Sc.blkLen (35 :: 124 :: t')) 4) := by
  have hN : Sc.blkLen (35 :: 124 :: t') = Sc.blkGo t' 2 1 := by
    unfold Sc.blkLen; rw [List.drop_zero, Sc.blkGo, if_pos ⟨rfl, rfl⟩, if_neg (by decide)]; rfl
  have hd : (T.take (i + (35 :: 124 :: t').length)).drop (i + 2) = t' := by
    rw [List.drop_take, ← List.drop_drop, hT]
    have : i + (35 :: 124 :: t').length - (i + 2) = t'.length := by simp; omega
    rw [this]; simp
  have hb : bkAt T (i + (35 :: 124 :: t').length) (i + 2) 1 = if Sc.blkGo t' 2 1 = 0 then -1 else ((i + 2 : Nat) : Int) + ((Sc.blkGo t' 2 1 : Int) - (2 : Nat)) := by
    unfold bkAt; rw [hd]; exact Sc.bk_line t' (i + 2) 2 1 (by omega)
  rw [hb, hN]
  unfold Sc.rkOf Sc.reOf Sc.enK Sc.enE
  by_cases h : Sc.blkGo t' 2 1 = 0
  · simp [h]
  · simp [h]; omega
theorem tok_quo {T t suf : List UInt8} {i : Nat} (hT : T.drop i = (34 :: t) ++ suf) (hs : Sc.Suf suf) (hn : Sc.No10 (34 :: t)) :
    Sc.rkOf (Sc.enK (Sc.strLen (34 :: t))) (Sc.enE (Sc.strLen (34 :: t)) 3) = 1 ∧
    Sc.quoGo (T.drop (i + 1)) (i + 1) false = Sc.reOf i (34 :: t).length (Sc.enK (Sc.strLen (34 :: t))) (Sc.strLen (34 :: t)) (Sc.enE (Sc.strLen (34 :: t)) 3) := by
  have hN : Sc.strLen (34 :: t) = Sc.strGo t 1 := rfl
  have hd : T.drop (i + 1) = t ++ suf := by rw [← List.drop_drop, hT]; rfl
  rw [hd, Sc.quo_line hs t (i + 1) 1 hn.tail, hN]
  unfold Sc.rkOf Sc.reOf Sc.enK Sc.enE
  by_cases h : Sc.strGo t 1 = 0
  · simp [h]
  · simp [h]; omega

set_option maxHeartbeats 400000 in
theorem tok_44a (s : ByteArray) (i : Nat) (c : UInt8) (t suf : List UInt8) (w : World) (hs : s.size ≤ 4096) (hi : i < s.size) (hc : s[i] = c) (hT : s.data.toList.drop i = (c :: t) ++ suf) (hsf : Sc.Suf suf) (_hno : Sc.No10 (c :: t)) (kd : Int) (n : Nat) (er : Int) (HR : Hid (Sc.readTok (c :: t) = (kd, n, er))) (hcv : c = 44) (hd : (s.data.toList.getD (i + 1) 0 == 64) = true) :
    Calls Tryz.prog 95 #[.string s, .int .i64 i] w fun e w' => e = .returned (.tuple #[.int .i64 (Sc.rkOf kd er), .int .i64 (Sc.reOf i (c :: t).length kd n er)]) ∧ w' = w := by
  have hz := Sc.lsize s
  have h2 := fun x y => Sc.two_test hT hsf x y
  subst hcv
  have q40 : ((s[i].toNat : Int) == 40) = false := by rw [hc]; rfl
  have q41 : ((s[i].toNat : Int) == 41) = false := by rw [hc]; rfl
  have q39 : ((s[i].toNat : Int) == 39) = false := by rw [hc]; rfl
  have q96 : ((s[i].toNat : Int) == 96) = false := by rw [hc]; rfl
  have q44 : ((s[i].toNat : Int) == 44) = true := by rw [hc]; rfl
  have q59 : ((s[i].toNat : Int) == 59) = false := by rw [hc]; rfl
  have q35 : ((s[i].toNat : Int) == 35) = false := by rw [hc]; rfl
  have q34 : ((s[i].toNat : Int) == 34) = false := by rw [hc]; rfl
  have hr : Sc.readTok (44 :: t) = (4, 2, 0) := by
    unfold Sc.readTok
    rw [h2 35 40 (by decide) (by decide), h2 44 64 (by decide) (by decide), h2 35 59 (by decide) (by decide), h2 35 124 (by decide) (by decide)]
    rw [hd]
    simp
  rw [HR.out] at hr
  simp only [Prod.mk.injEq] at hr
  obtain ⟨rfl, rfl, rfl⟩ := hr
  clear h2 HR
  generalize hdd : ((s.data.toList.getD (i + 1) 0).toNat : Int) = dd
  have r64 : (dd == 64) = true := by rw [← hdd, ← u8b (d := 64)]; exact hd
  have HA : Hid (∀ W, Calls Tryz.prog 136 #[.string s, .int .i64 ((i : Int) + 1)] W fun e w' => e = .returned (.int .u8 dd) ∧ w' = W) := by
    intro W; have := at_any s (i + 1) W hs (by omega); rw [hdd] at this; exact this
  clear hdd
  clear hd
  go_enter Tryz.func95, Tryz.ntmps95
  go_wp2_with (go_at_call 136; refine (HA.out _).mono ?_; rintro e w1 ⟨rfl, hw1⟩; subst w1)
  go_ret2
  exact ⟨rfl, rfl⟩

set_option maxHeartbeats 400000 in
theorem tok_44b (s : ByteArray) (i : Nat) (c : UInt8) (t suf : List UInt8) (w : World) (hs : s.size ≤ 4096) (hi : i < s.size) (hc : s[i] = c) (hT : s.data.toList.drop i = (c :: t) ++ suf) (hsf : Sc.Suf suf) (_hno : Sc.No10 (c :: t)) (kd : Int) (n : Nat) (er : Int) (HR : Hid (Sc.readTok (c :: t) = (kd, n, er))) (hcv : c = 44) (hd : (s.data.toList.getD (i + 1) 0 == 64) = false) :
    Calls Tryz.prog 95 #[.string s, .int .i64 i] w fun e w' => e = .returned (.tuple #[.int .i64 (Sc.rkOf kd er), .int .i64 (Sc.reOf i (c :: t).length kd n er)]) ∧ w' = w := by
  have hz := Sc.lsize s
  have h2 := fun x y => Sc.two_test hT hsf x y
  subst hcv
  have q40 : ((s[i].toNat : Int) == 40) = false := by rw [hc]; rfl
  have q41 : ((s[i].toNat : Int) == 41) = false := by rw [hc]; rfl
  have q39 : ((s[i].toNat : Int) == 39) = false := by rw [hc]; rfl
  have q96 : ((s[i].toNat : Int) == 96) = false := by rw [hc]; rfl
  have q44 : ((s[i].toNat : Int) == 44) = true := by rw [hc]; rfl
  have q59 : ((s[i].toNat : Int) == 59) = false := by rw [hc]; rfl
  have q35 : ((s[i].toNat : Int) == 35) = false := by rw [hc]; rfl
  have q34 : ((s[i].toNat : Int) == 34) = false := by rw [hc]; rfl
  have hr : Sc.readTok (44 :: t) = (4, 1, 0) := by
    unfold Sc.readTok
    rw [h2 35 40 (by decide) (by decide), h2 44 64 (by decide) (by decide), h2 35 59 (by decide) (by decide), h2 35 124 (by decide) (by decide)]
    rw [hd]
    simp [Sc.h0_cons]
  rw [HR.out] at hr
  simp only [Prod.mk.injEq] at hr
  obtain ⟨rfl, rfl, rfl⟩ := hr
  clear h2 HR
  generalize hdd : ((s.data.toList.getD (i + 1) 0).toNat : Int) = dd
  have r64 : (dd == 64) = false := by rw [← hdd, ← u8b (d := 64)]; exact hd
  have HA : Hid (∀ W, Calls Tryz.prog 136 #[.string s, .int .i64 ((i : Int) + 1)] W fun e w' => e = .returned (.int .u8 dd) ∧ w' = W) := by
    intro W; have := at_any s (i + 1) W hs (by omega); rw [hdd] at this; exact this
  clear hdd
  clear hd
  go_enter Tryz.func95, Tryz.ntmps95
  go_wp2_with (go_at_call 136; refine (HA.out _).mono ?_; rintro e w1 ⟨rfl, hw1⟩; subst w1)
  go_ret2
  exact ⟨rfl, rfl⟩

set_option maxHeartbeats 400000 in
theorem tok_59 (s : ByteArray) (i : Nat) (c : UInt8) (t suf : List UInt8) (w : World) (hs : s.size ≤ 4096) (hi : i < s.size) (hc : s[i] = c) (hT : s.data.toList.drop i = (c :: t) ++ suf) (hsf : Sc.Suf suf) (hno : Sc.No10 (c :: t)) (kd : Int) (n : Nat) (er : Int) (HR : Hid (Sc.readTok (c :: t) = (kd, n, er))) (hcv : c = 59) :
    Calls Tryz.prog 95 #[.string s, .int .i64 i] w fun e w' => e = .returned (.tuple #[.int .i64 (Sc.rkOf kd er), .int .i64 (Sc.reOf i (c :: t).length kd n er)]) ∧ w' = w := by
  have hz := Sc.lsize s
  have h2 := fun x y => Sc.two_test hT hsf x y
  subst hcv
  have q40 : ((s[i].toNat : Int) == 40) = false := by rw [hc]; rfl
  have q41 : ((s[i].toNat : Int) == 41) = false := by rw [hc]; rfl
  have q39 : ((s[i].toNat : Int) == 39) = false := by rw [hc]; rfl
  have q96 : ((s[i].toNat : Int) == 96) = false := by rw [hc]; rfl
  have q44 : ((s[i].toNat : Int) == 44) = false := by rw [hc]; rfl
  have q59 : ((s[i].toNat : Int) == 59) = true := by rw [hc]; rfl
  have q35 : ((s[i].toNat : Int) == 35) = false := by rw [hc]; rfl
  have q34 : ((s[i].toNat : Int) == 34) = false := by rw [hc]; rfl
  have hr : Sc.readTok (59 :: t) = (5, Sc.trimLen (59 :: t), 0) := by
    unfold Sc.readTok
    rw [h2 35 40 (by decide) (by decide), h2 44 64 (by decide) (by decide), h2 35 59 (by decide) (by decide), h2 35 124 (by decide) (by decide)]
    simp [Sc.h0_cons]
  rw [HR.out] at hr
  simp only [Prod.mk.injEq] at hr
  obtain ⟨rfl, rfl, rfl⟩ := hr
  clear h2 HR
  generalize hdd : ((s.data.toList.getD (i + 1) 0).toNat : Int) = dd
  have HA : Hid (∀ W, Calls Tryz.prog 136 #[.string s, .int .i64 ((i : Int) + 1)] W fun e w' => e = .returned (.int .u8 dd) ∧ w' = W) := by
    intro W; have := at_any s (i + 1) W hs (by omega); rw [hdd] at this; exact this
  clear hdd
  have HE : Hid (∀ W, Calls Tryz.prog 137 #[.string s, .int .i64 i] W fun e w' => e = .returned (.int .i64 ((i + (59 :: t).length : Nat) : Int)) ∧ w' = W) := by
    intro W; have := eol_any s i W hs (by omega); rw [Sc.eol_line hT hno hsf] at this; exact this
  go_enter Tryz.func95, Tryz.ntmps95
  go_wp2_with (first | (go_at_call 136; refine (HA.out _).mono ?_; rintro e w1 ⟨rfl, hw1⟩; subst w1) | (go_at_call 137; refine (HE.out _).mono ?_; rintro e w2 ⟨rfl, hw2⟩; subst w2))
  go_ret2
  exact ⟨by simp [Sc.rkOf, Sc.reOf], rfl⟩

set_option maxHeartbeats 400000 in
theorem tok_35a (s : ByteArray) (i : Nat) (c : UInt8) (t suf : List UInt8) (w : World) (hs : s.size ≤ 4096) (hi : i < s.size) (hc : s[i] = c) (hT : s.data.toList.drop i = (c :: t) ++ suf) (hsf : Sc.Suf suf) (_hno : Sc.No10 (c :: t)) (kd : Int) (n : Nat) (er : Int) (HR : Hid (Sc.readTok (c :: t) = (kd, n, er))) (hcv : c = 35) (hd : (s.data.toList.getD (i + 1) 0 == 40) = true) :
    Calls Tryz.prog 95 #[.string s, .int .i64 i] w fun e w' => e = .returned (.tuple #[.int .i64 (Sc.rkOf kd er), .int .i64 (Sc.reOf i (c :: t).length kd n er)]) ∧ w' = w := by
  have hz := Sc.lsize s
  have h2 := fun x y => Sc.two_test hT hsf x y
  subst hcv
  have q40 : ((s[i].toNat : Int) == 40) = false := by rw [hc]; rfl
  have q41 : ((s[i].toNat : Int) == 41) = false := by rw [hc]; rfl
  have q39 : ((s[i].toNat : Int) == 39) = false := by rw [hc]; rfl
  have q96 : ((s[i].toNat : Int) == 96) = false := by rw [hc]; rfl
  have q44 : ((s[i].toNat : Int) == 44) = false := by rw [hc]; rfl
  have q59 : ((s[i].toNat : Int) == 59) = false := by rw [hc]; rfl
  have q35 : ((s[i].toNat : Int) == 35) = true := by rw [hc]; rfl
  have q34 : ((s[i].toNat : Int) == 34) = false := by rw [hc]; rfl
  have hr : Sc.readTok (35 :: t) = (2, 2, 0) := by
    unfold Sc.readTok
    rw [h2 35 40 (by decide) (by decide), h2 44 64 (by decide) (by decide), h2 35 59 (by decide) (by decide), h2 35 124 (by decide) (by decide)]
    rw [hd]
    simp
  rw [HR.out] at hr
  simp only [Prod.mk.injEq] at hr
  obtain ⟨rfl, rfl, rfl⟩ := hr
  clear h2 HR
  generalize hdd : ((s.data.toList.getD (i + 1) 0).toNat : Int) = dd
  have r40 : (dd == 40) = true := by rw [← hdd, ← u8b (d := 40)]; exact hd
  have HA : Hid (∀ W, Calls Tryz.prog 136 #[.string s, .int .i64 ((i : Int) + 1)] W fun e w' => e = .returned (.int .u8 dd) ∧ w' = W) := by
    intro W; have := at_any s (i + 1) W hs (by omega); rw [hdd] at this; exact this
  clear hdd
  clear hd
  go_enter Tryz.func95, Tryz.ntmps95
  go_wp2_with (go_at_call 136; refine (HA.out _).mono ?_; rintro e w1 ⟨rfl, hw1⟩; subst w1)
  go_ret2
  exact ⟨rfl, rfl⟩

set_option maxHeartbeats 400000 in
theorem tok_35b (s : ByteArray) (i : Nat) (c : UInt8) (t suf : List UInt8) (w : World) (hs : s.size ≤ 4096) (hi : i < s.size) (hc : s[i] = c) (hT : s.data.toList.drop i = (c :: t) ++ suf) (hsf : Sc.Suf suf) (_hno : Sc.No10 (c :: t)) (kd : Int) (n : Nat) (er : Int) (HR : Hid (Sc.readTok (c :: t) = (kd, n, er))) (hcv : c = 35) (hd : (s.data.toList.getD (i + 1) 0 == 40) = false) (hd2 : (s.data.toList.getD (i + 1) 0 == 59) = true) :
    Calls Tryz.prog 95 #[.string s, .int .i64 i] w fun e w' => e = .returned (.tuple #[.int .i64 (Sc.rkOf kd er), .int .i64 (Sc.reOf i (c :: t).length kd n er)]) ∧ w' = w := by
  have hz := Sc.lsize s
  have h2 := fun x y => Sc.two_test hT hsf x y
  subst hcv
  have q40 : ((s[i].toNat : Int) == 40) = false := by rw [hc]; rfl
  have q41 : ((s[i].toNat : Int) == 41) = false := by rw [hc]; rfl
  have q39 : ((s[i].toNat : Int) == 39) = false := by rw [hc]; rfl
  have q96 : ((s[i].toNat : Int) == 96) = false := by rw [hc]; rfl
  have q44 : ((s[i].toNat : Int) == 44) = false := by rw [hc]; rfl
  have q59 : ((s[i].toNat : Int) == 59) = false := by rw [hc]; rfl
  have q35 : ((s[i].toNat : Int) == 35) = true := by rw [hc]; rfl
  have q34 : ((s[i].toNat : Int) == 34) = false := by rw [hc]; rfl
  have hr : Sc.readTok (35 :: t) = (4, 2, 0) := by
    unfold Sc.readTok
    rw [h2 35 40 (by decide) (by decide), h2 44 64 (by decide) (by decide), h2 35 59 (by decide) (by decide), h2 35 124 (by decide) (by decide)]
    rw [hd, hd2]
    simp
  rw [HR.out] at hr
  simp only [Prod.mk.injEq] at hr
  obtain ⟨rfl, rfl, rfl⟩ := hr
  clear h2 HR
  generalize hdd : ((s.data.toList.getD (i + 1) 0).toNat : Int) = dd
  have r40 : (dd == 40) = false := by rw [← hdd, ← u8b (d := 40)]; exact hd
  have r59 : (dd == 59) = true := by rw [← hdd, ← u8b (d := 59)]; exact hd2
  have HA : Hid (∀ W, Calls Tryz.prog 136 #[.string s, .int .i64 ((i : Int) + 1)] W fun e w' => e = .returned (.int .u8 dd) ∧ w' = W) := by
    intro W; have := at_any s (i + 1) W hs (by omega); rw [hdd] at this; exact this
  clear hdd
  clear hd hd2
  go_enter Tryz.func95, Tryz.ntmps95
  go_wp2_with (go_at_call 136; refine (HA.out _).mono ?_; rintro e w1 ⟨rfl, hw1⟩; subst w1)
  go_ret2
  exact ⟨rfl, rfl⟩

set_option maxHeartbeats 400000 in
theorem tok_35c (s : ByteArray) (i : Nat) (c : UInt8) (t suf : List UInt8) (w : World) (hs : s.size ≤ 4096) (hi : i < s.size) (hc : s[i] = c) (hT : s.data.toList.drop i = (c :: t) ++ suf) (hsf : Sc.Suf suf) (hno : Sc.No10 (c :: t)) (kd : Int) (n : Nat) (er : Int) (HR : Hid (Sc.readTok (c :: t) = (kd, n, er))) (hcv : c = 35) (hd : (s.data.toList.getD (i + 1) 0 == 40) = false) (hd2 : (s.data.toList.getD (i + 1) 0 == 59) = false) (hd3 : (s.data.toList.getD (i + 1) 0 == 124) = true) :
    Calls Tryz.prog 95 #[.string s, .int .i64 i] w fun e w' => e = .returned (.tuple #[.int .i64 (Sc.rkOf kd er), .int .i64 (Sc.reOf i (c :: t).length kd n er)]) ∧ w' = w := by
  have hz := Sc.lsize s
  have h2 := fun x y => Sc.two_test hT hsf x y
  subst hcv
  have q40 : ((s[i].toNat : Int) == 40) = false := by rw [hc]; rfl
  have q41 : ((s[i].toNat : Int) == 41) = false := by rw [hc]; rfl
  have q39 : ((s[i].toNat : Int) == 39) = false := by rw [hc]; rfl
  have q96 : ((s[i].toNat : Int) == 96) = false := by rw [hc]; rfl
  have q44 : ((s[i].toNat : Int) == 44) = false := by rw [hc]; rfl
  have q59 : ((s[i].toNat : Int) == 59) = false := by rw [hc]; rfl
  have q35 : ((s[i].toNat : Int) == 35) = true := by rw [hc]; rfl
  have q34 : ((s[i].toNat : Int) == 34) = false := by rw [hc]; rfl
  have hr : Sc.readTok (35 :: t) = (Sc.enK (Sc.blkLen (35 :: t)), Sc.blkLen (35 :: t), Sc.enE (Sc.blkLen (35 :: t)) 4) := by
    unfold Sc.readTok
    rw [h2 35 40 (by decide) (by decide), h2 44 64 (by decide) (by decide), h2 35 59 (by decide) (by decide), h2 35 124 (by decide) (by decide)]
    rw [hd, hd2, hd3]
    simp
  rw [HR.out] at hr
  simp only [Prod.mk.injEq] at hr
  obtain ⟨rfl, rfl, rfl⟩ := hr
  have htt : ∃ t', t = 124 :: t' := by
    have e := h2 35 124 (by decide) (by decide)
    rw [hd3] at e
    match t, e with
    | [], e => simp at e
    | d :: t', e => simp at e; exact ⟨t', by rw [e]⟩
  obtain ⟨t', rfl⟩ := htt
  clear h2 HR
  generalize hdd : ((s.data.toList.getD (i + 1) 0).toNat : Int) = dd
  have r40 : (dd == 40) = false := by rw [← hdd, ← u8b (d := 40)]; exact hd
  have r59 : (dd == 59) = false := by rw [← hdd, ← u8b (d := 59)]; exact hd2
  have r124 : (dd == 124) = true := by rw [← hdd, ← u8b (d := 124)]; exact hd3
  have HA : Hid (∀ W, Calls Tryz.prog 136 #[.string s, .int .i64 ((i : Int) + 1)] W fun e w' => e = .returned (.int .u8 dd) ∧ w' = W) := by
    intro W; have := at_any s (i + 1) W hs (by omega); rw [hdd] at this; exact this
  clear hdd
  clear hd hd2 hd3
  have hle : i + (35 :: 124 :: t').length ≤ s.size := by
    have := congrArg List.length hT
    rw [List.length_drop, List.length_append] at this; omega
  have HB : Hid (∀ W, Calls Tryz.prog 138 #[.string s, .int .i64 i] W fun e w' => e = .returned (.int .i64 (Sc.reOf i (35 :: 124 :: t').length (Sc.enK (Sc.blkLen (35 :: 124 :: t'))) (Sc.blkLen (35 :: 124 :: t')) (Sc.enE (Sc.blkLen (35 :: 124 :: t')) 4))) ∧ w' = W) := by
    intro W; have := block_any s i W hs (by omega) _ (Sc.eol_line hT hno hsf) hle; rw [(tok_bk hT).2] at this; exact this
  rw [(tok_bk hT).1]
  generalize Sc.reOf i (35 :: 124 :: t').length (Sc.enK (Sc.blkLen (35 :: 124 :: t'))) (Sc.blkLen (35 :: 124 :: t')) (Sc.enE (Sc.blkLen (35 :: 124 :: t')) 4) = X at HB ⊢
  go_enter Tryz.func95, Tryz.ntmps95
  go_wp2_with (first | (go_at_call 136; refine (HA.out _).mono ?_; rintro e w1 ⟨rfl, hw1⟩; subst w1) | (go_at_call 138; refine (HB.out _).mono ?_; rintro e w2 ⟨rfl, hw2⟩; subst w2))
  go_ret2
  exact ⟨rfl, rfl⟩

set_option maxHeartbeats 400000 in
theorem tok_34 (s : ByteArray) (i : Nat) (c : UInt8) (t suf : List UInt8) (w : World) (hs : s.size ≤ 4096) (hi : i < s.size) (hc : s[i] = c) (hT : s.data.toList.drop i = (c :: t) ++ suf) (hsf : Sc.Suf suf) (hno : Sc.No10 (c :: t)) (kd : Int) (n : Nat) (er : Int) (HR : Hid (Sc.readTok (c :: t) = (kd, n, er))) (hcv : c = 34) :
    Calls Tryz.prog 95 #[.string s, .int .i64 i] w fun e w' => e = .returned (.tuple #[.int .i64 (Sc.rkOf kd er), .int .i64 (Sc.reOf i (c :: t).length kd n er)]) ∧ w' = w := by
  have hz := Sc.lsize s
  have h2 := fun x y => Sc.two_test hT hsf x y
  subst hcv
  have q40 : ((s[i].toNat : Int) == 40) = false := by rw [hc]; rfl
  have q41 : ((s[i].toNat : Int) == 41) = false := by rw [hc]; rfl
  have q39 : ((s[i].toNat : Int) == 39) = false := by rw [hc]; rfl
  have q96 : ((s[i].toNat : Int) == 96) = false := by rw [hc]; rfl
  have q44 : ((s[i].toNat : Int) == 44) = false := by rw [hc]; rfl
  have q59 : ((s[i].toNat : Int) == 59) = false := by rw [hc]; rfl
  have q35 : ((s[i].toNat : Int) == 35) = false := by rw [hc]; rfl
  have q34 : ((s[i].toNat : Int) == 34) = true := by rw [hc]; rfl
  have hr : Sc.readTok (34 :: t) = (Sc.enK (Sc.strLen (34 :: t)), Sc.strLen (34 :: t), Sc.enE (Sc.strLen (34 :: t)) 3) := by
    unfold Sc.readTok
    rw [h2 35 40 (by decide) (by decide), h2 44 64 (by decide) (by decide), h2 35 59 (by decide) (by decide), h2 35 124 (by decide) (by decide)]
    simp [Sc.h0_cons]
  rw [HR.out] at hr
  simp only [Prod.mk.injEq] at hr
  obtain ⟨rfl, rfl, rfl⟩ := hr
  clear h2 HR
  generalize hdd : ((s.data.toList.getD (i + 1) 0).toNat : Int) = dd
  have HA : Hid (∀ W, Calls Tryz.prog 136 #[.string s, .int .i64 ((i : Int) + 1)] W fun e w' => e = .returned (.int .u8 dd) ∧ w' = W) := by
    intro W; have := at_any s (i + 1) W hs (by omega); rw [hdd] at this; exact this
  clear hdd
  have HB : Hid (∀ W, Calls Tryz.prog 139 #[.string s, .int .i64 i] W fun e w' => e = .returned (.int .i64 (Sc.reOf i (34 :: t).length (Sc.enK (Sc.strLen (34 :: t))) (Sc.strLen (34 :: t)) (Sc.enE (Sc.strLen (34 :: t)) 3))) ∧ w' = W) := by
    intro W; have := quoted_any s i W hs hi; rw [(tok_quo hT hsf hno).2] at this; exact this
  rw [(tok_quo hT hsf hno).1]
  generalize Sc.reOf i (34 :: t).length (Sc.enK (Sc.strLen (34 :: t))) (Sc.strLen (34 :: t)) (Sc.enE (Sc.strLen (34 :: t)) 3) = X at HB ⊢
  go_enter Tryz.func95, Tryz.ntmps95
  go_wp2_with (first | (go_at_call 136; refine (HA.out _).mono ?_; rintro e w1 ⟨rfl, hw1⟩; subst w1) | (go_at_call 139; refine (HB.out _).mono ?_; rintro e w2 ⟨rfl, hw2⟩; subst w2))
  go_ret2
  exact ⟨rfl, rfl⟩

set_option maxHeartbeats 800000 in
theorem tok_35d (s : ByteArray) (i : Nat) (c : UInt8) (t suf : List UInt8) (w : World) (hs : s.size ≤ 4096) (hi : i < s.size) (hc : s[i] = c) (hT : s.data.toList.drop i = (c :: t) ++ suf) (hsf : Sc.Suf suf) (hno : Sc.No10 (c :: t)) (kd : Int) (n : Nat) (er : Int) (HR : Hid (Sc.readTok (c :: t) = (kd, n, er))) (h35 : c = 35) (hd : (s.data.toList.getD (i + 1) 0 == 40) = false) (hd2 : (s.data.toList.getD (i + 1) 0 == 59) = false) (hd3 : (s.data.toList.getD (i + 1) 0 == 124) = false) :
    Calls Tryz.prog 95 #[.string s, .int .i64 i] w fun e w' => e = .returned (.tuple #[.int .i64 (Sc.rkOf kd er), .int .i64 (Sc.reOf i (c :: t).length kd n er)]) ∧ w' = w := by
  have hz := Sc.lsize s
  have h2 := fun x y => Sc.two_test hT hsf x y
  subst h35
  have q40 : ((s[i].toNat : Int) == 40) = false := by rw [hc]; rfl
  have q41 : ((s[i].toNat : Int) == 41) = false := by rw [hc]; rfl
  have q39 : ((s[i].toNat : Int) == 39) = false := by rw [hc]; rfl
  have q96 : ((s[i].toNat : Int) == 96) = false := by rw [hc]; rfl
  have q44 : ((s[i].toNat : Int) == 44) = false := by rw [hc]; rfl
  have q59 : ((s[i].toNat : Int) == 59) = false := by rw [hc]; rfl
  have q35 : ((s[i].toNat : Int) == 35) = true := by rw [hc]; rfl
  have q34 : ((s[i].toNat : Int) == 34) = false := by rw [hc]; rfl
  have hr : Sc.readTok (35 :: t) = (1, Sc.atomLen (35 :: t), 0) := by
    unfold Sc.readTok
    rw [h2 35 40 (by decide) (by decide), h2 44 64 (by decide) (by decide), h2 35 59 (by decide) (by decide), h2 35 124 (by decide) (by decide)]
    rw [hd, hd2, hd3]
    simp [Sc.h0_cons]
  rw [HR.out] at hr
  simp only [Prod.mk.injEq] at hr
  obtain ⟨rfl, rfl, rfl⟩ := hr
  have HAT := hide (Sc.atom_line hT hno hsf rfl)
  clear h2 HR
  generalize hdd : ((s.data.toList.getD (i + 1) 0).toNat : Int) = dd
  have r40 : (dd == 40) = false := by rw [← hdd, ← u8b (d := 40)]; exact hd
  have r59 : (dd == 59) = false := by rw [← hdd, ← u8b (d := 59)]; exact hd2
  have r124 : (dd == 124) = false := by rw [← hdd, ← u8b (d := 124)]; exact hd3
  have HA : Hid (∀ W, Calls Tryz.prog 136 #[.string s, .int .i64 ((i : Int) + 1)] W fun e w' => e = .returned (.int .u8 dd) ∧ w' = W) := by
    intro W; have := at_any s (i + 1) W hs (by omega); rw [hdd] at this; exact this
  clear hdd
  clear hd hd2 hd3
  have hre : Sc.reOf i (35 :: t).length 1 (Sc.atomLen (35 :: t)) 0 = ((Sc.runN Sc.inAt s.data.toList (i + 1) : Nat) : Int) := by
    rw [HAT.out]; unfold Sc.reOf; rw [if_pos rfl, if_neg (by decide)]; push_cast; rfl
  rw [hre]
  generalize hX : Sc.runN Sc.inAt s.data.toList (i + 1) = X
  have HX := hide hX
  clear hre hX HAT
  go_enter Tryz.func95, Tryz.ntmps95
  go_wp2_with (go_at_call 136; refine (HA.out _).mono ?_; rintro e w1 ⟨rfl, hw1⟩; subst w1)
  go_loop [8] (fun x => ∃ k : Nat, k ≤ s.size ∧ x = .int .i64 k ∧ Hid (X = Sc.runN Sc.inAt s.data.toList k)) (fun x => s.size - (intOf x).toNat)
  case atStart => exact ⟨i + 1, by omega, by go_num, HX.out.symm⟩
  case round =>
    obtain ⟨k, hk, rfl, HK⟩ := hrel
    by_cases hlt : k < s.size
    · have hen := ends_any s[k]
      cases hb : Sc.endB s[k] with
      | true =>
        have HE : Hid (X = k) := HK.out.trans (Sc.runN_miss _ _ k (by omega) (by show Sc.inAt s[k] = false; unfold Sc.inAt; rw [hb]; rfl))
        rw [hb] at hen
        have HEN := hide hen
        clear hen hb HK
        go_wp2_with (go_at_call 140; refine (HEN.out _).mono ?_; rintro e w2 ⟨rfl, hw2⟩; subst w2)
        go_ret2
        exact ⟨by rw [HE.out]; rfl, rfl⟩
      | false =>
        have HE : Hid (X = Sc.runN Sc.inAt s.data.toList (k + 1)) := HK.out.trans (Sc.runN_hit _ _ k (by omega) (by show Sc.inAt s[k] = true; unfold Sc.inAt; rw [hb]; rfl))
        rw [hb] at hen
        have HEN := hide hen
        clear hen hb HK
        go_wp2_with (go_at_call 140; refine (HEN.out _).mono ?_; rintro e w2 ⟨rfl, hw2⟩; subst w2)
        go_round
        case rel => exact ⟨k + 1, by omega, by go_num, HE⟩
        case measure => simp [intOf]; omega
    · have HE : Hid (X = k) := HK.out.trans (Sc.runN_end _ _ k (by omega))
      go_wp2
      go_ret2
      exact ⟨by rw [HE.out]; rfl, rfl⟩

set_option maxHeartbeats 800000 in
theorem tok_rest (s : ByteArray) (i : Nat) (c : UInt8) (t suf : List UInt8) (w : World) (hs : s.size ≤ 4096) (hi : i < s.size) (hc : s[i] = c) (hT : s.data.toList.drop i = (c :: t) ++ suf) (hsf : Sc.Suf suf) (hno : Sc.No10 (c :: t)) (kd : Int) (n : Nat) (er : Int) (HR : Hid (Sc.readTok (c :: t) = (kd, n, er))) (n40 : c ≠ 40) (n41 : c ≠ 41) (n39 : c ≠ 39) (n96 : c ≠ 96) (n44 : c ≠ 44) (n59 : c ≠ 59) (n35 : c ≠ 35) (n34 : c ≠ 34) (hb : Sc.isBl c = false) :
    Calls Tryz.prog 95 #[.string s, .int .i64 i] w fun e w' => e = .returned (.tuple #[.int .i64 (Sc.rkOf kd er), .int .i64 (Sc.reOf i (c :: t).length kd n er)]) ∧ w' = w := by
  have hz := Sc.lsize s
  have h2 := fun x y => Sc.two_test hT hsf x y
  have q40 : ((c.toNat : Int) == 40) = false := by rw [← u8b (d := 40)]; simpa using n40
  have q41 : ((c.toNat : Int) == 41) = false := by rw [← u8b (d := 41)]; simpa using n41
  have q39 : ((c.toNat : Int) == 39) = false := by rw [← u8b (d := 39)]; simpa using n39
  have q96 : ((c.toNat : Int) == 96) = false := by rw [← u8b (d := 96)]; simpa using n96
  have q44 : ((c.toNat : Int) == 44) = false := by rw [← u8b (d := 44)]; simpa using n44
  have q59 : ((c.toNat : Int) == 59) = false := by rw [← u8b (d := 59)]; simpa using n59
  have q35 : ((c.toNat : Int) == 35) = false := by rw [← u8b (d := 35)]; simpa using n35
  have q34 : ((c.toNat : Int) == 34) = false := by rw [← u8b (d := 34)]; simpa using n34
  have hr : Sc.readTok (c :: t) = (1, Sc.atomLen (c :: t), 0) := by
    unfold Sc.readTok
    rw [h2 35 40 (by decide) (by decide), h2 44 64 (by decide) (by decide), h2 35 59 (by decide) (by decide), h2 35 124 (by decide) (by decide)]
    simp [Sc.h0_cons, n44, n35, q40, q41, q39, q96, q44, q59, q34]
  rw [HR.out] at hr
  simp only [Prod.mk.injEq] at hr
  obtain ⟨rfl, rfl, rfl⟩ := hr
  have hag : Sc.atomGo c = true := by
    unfold Sc.isBl at hb
    simp at hb
    simp [Sc.atomGo, Sc.atomEnds, n40, n41, n39, n96, n44, n59, n34, hb.1, hb.2]
  have HAT := hide (Sc.atom_line hT hno hsf hag)
  clear h2 HR hag n40 n41 n39 n96 n44 n59 n35 n34 hb
  generalize hdd : ((s.data.toList.getD (i + 1) 0).toNat : Int) = dd
  have HA : Hid (∀ W, Calls Tryz.prog 136 #[.string s, .int .i64 ((i : Int) + 1)] W fun e w' => e = .returned (.int .u8 dd) ∧ w' = W) := by
    intro W; have := at_any s (i + 1) W hs (by omega); rw [hdd] at this; exact this
  clear hdd
  have hre : Sc.reOf i (c :: t).length 1 (Sc.atomLen (c :: t)) 0 = ((Sc.runN Sc.inAt s.data.toList (i + 1) : Nat) : Int) := by
    rw [HAT.out]; unfold Sc.reOf; rw [if_pos rfl, if_neg (by decide)]; push_cast; rfl
  rw [hre]
  generalize hX : Sc.runN Sc.inAt s.data.toList (i + 1) = X
  have HX := hide hX
  clear hre hX HAT
  go_enter Tryz.func95, Tryz.ntmps95
  go_wp2_with (go_at_call 136; refine (HA.out _).mono ?_; rintro e w1 ⟨rfl, hw1⟩; subst w1)
  go_loop [8] (fun x => ∃ k : Nat, k ≤ s.size ∧ x = .int .i64 k ∧ Hid (X = Sc.runN Sc.inAt s.data.toList k)) (fun x => s.size - (intOf x).toNat)
  case atStart => exact ⟨i + 1, by omega, by go_num, HX.out.symm⟩
  case round =>
    obtain ⟨k, hk, rfl, HK⟩ := hrel
    by_cases hlt : k < s.size
    · have hen := ends_any s[k]
      cases hb : Sc.endB s[k] with
      | true =>
        have HE : Hid (X = k) := HK.out.trans (Sc.runN_miss _ _ k (by omega) (by show Sc.inAt s[k] = false; unfold Sc.inAt; rw [hb]; rfl))
        rw [hb] at hen
        have HEN := hide hen
        clear hen hb HK
        go_wp2_with (go_at_call 140; refine (HEN.out _).mono ?_; rintro e w2 ⟨rfl, hw2⟩; subst w2)
        go_ret2
        exact ⟨by rw [HE.out]; rfl, rfl⟩
      | false =>
        have HE : Hid (X = Sc.runN Sc.inAt s.data.toList (k + 1)) := HK.out.trans (Sc.runN_hit _ _ k (by omega) (by show Sc.inAt s[k] = true; unfold Sc.inAt; rw [hb]; rfl))
        rw [hb] at hen
        have HEN := hide hen
        clear hen hb HK
        go_wp2_with (go_at_call 140; refine (HEN.out _).mono ?_; rintro e w2 ⟨rfl, hw2⟩; subst w2)
        go_round
        case rel => exact ⟨k + 1, by omega, by go_num, HE⟩
        case measure => simp [intOf]; omega
    · have HE : Hid (X = k) := HK.out.trans (Sc.runN_end _ _ k (by omega))
      go_wp2
      go_ret2
      exact ⟨by rw [HE.out]; rfl, rfl⟩

theorem token_any (s : ByteArray) (i : Nat) (c : UInt8) (t suf : List UInt8) (w : World) (hs : s.size ≤ 4096) (hi : i < s.size) (hc : s[i] = c) (hT : s.data.toList.drop i = (c :: t) ++ suf) (hsf : Sc.Suf suf) (hno : Sc.No10 (c :: t)) (kd : Int) (n : Nat) (er : Int) (HR : Hid (Sc.readTok (c :: t) = (kd, n, er))) (hb : Sc.isBl c = false) :
    Calls Tryz.prog 95 #[.string s, .int .i64 i] w fun e w' => e = .returned (.tuple #[.int .i64 (Sc.rkOf kd er), .int .i64 (Sc.reOf i (c :: t).length kd n er)]) ∧ w' = w := by
  by_cases n40 : c = 40
  · exact tok_40 s i c t suf w hs hi hc hT hsf hno kd n er HR n40
  by_cases n41 : c = 41
  · exact tok_41 s i c t suf w hs hi hc hT hsf hno kd n er HR n41
  by_cases n39 : c = 39
  · exact tok_39 s i c t suf w hs hi hc hT hsf hno kd n er HR n39
  by_cases n96 : c = 96
  · exact tok_96 s i c t suf w hs hi hc hT hsf hno kd n er HR n96
  by_cases n44 : c = 44
  · cases hd : (s.data.toList.getD (i + 1) 0 == 64) with
    | true => exact tok_44a s i c t suf w hs hi hc hT hsf hno kd n er HR n44 hd
    | false => exact tok_44b s i c t suf w hs hi hc hT hsf hno kd n er HR n44 hd
  by_cases n59 : c = 59
  · exact tok_59 s i c t suf w hs hi hc hT hsf hno kd n er HR n59
  by_cases n34 : c = 34
  · exact tok_34 s i c t suf w hs hi hc hT hsf hno kd n er HR n34
  by_cases n35 : c = 35
  · cases hd : (s.data.toList.getD (i + 1) 0 == 40) with
    | true => exact tok_35a s i c t suf w hs hi hc hT hsf hno kd n er HR n35 hd
    | false =>
    cases hd2 : (s.data.toList.getD (i + 1) 0 == 59) with
    | true => exact tok_35b s i c t suf w hs hi hc hT hsf hno kd n er HR n35 hd hd2
    | false =>
    cases hd3 : (s.data.toList.getD (i + 1) 0 == 124) with
    | true => exact tok_35c s i c t suf w hs hi hc hT hsf hno kd n er HR n35 hd hd2 hd3
    | false => exact tok_35d s i c t suf w hs hi hc hT hsf hno kd n er HR n35 hd hd2 hd3
  exact tok_rest s i c t suf w hs hi hc hT hsf hno kd n er HR n40 n41 n39 n96 n44 n59 n35 n34 hb
end Go.Proofs.YtoieklacpkahbaaGreatDoor
