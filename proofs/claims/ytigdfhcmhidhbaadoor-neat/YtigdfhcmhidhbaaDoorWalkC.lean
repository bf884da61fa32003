/- Walks: readToken. -/
import Derived.Test.YtigdfhcmhidhbaaDoorWalkB
namespace Go.Proofs.YtigdfhcmhidhbaaDoor
open Go.RowKit

set_option maxHeartbeats 400000 in
theorem readToken_c1 (s : ByteArray) (w : World) (hs : s.size ≤ 4096) (h1 : 0 < s.size) (_ha : Sc.Ascii s.data.toList) (R : Int × Nat × Int) (HR : Hid (Sc.readTok s.data.toList = R)) (c1 : ((s.extract 0 (min 2 (s.size : Int)).toNat).toList == [35, 40]) = true) :
    Calls Tryd.prog 56 #[.string s] w fun e w' => e = .returned (.tuple #[.int .i64 R.1, .int .i64 (R.2.1 : Nat), .int .i64 R.2.2]) ∧ Below w.heap.size w w' := by
  have HE : Hid (R = (2, 2, 0)) := HR.out.symm.trans (by unfold Sc.readTok; rw [← Sc.take2 s]; simp only [Sc.head0 s h1]; simp [c1])
  clear _ha
  go_enter Tryd.func56, Tryd.ntmps56
  go_wp2
  go_ret3
  exact ⟨by rw [HE.out]; rfl, Below.refl _ _⟩

set_option maxHeartbeats 400000 in
theorem readToken_c2 (s : ByteArray) (w : World) (hs : s.size ≤ 4096) (h1 : 0 < s.size) (_ha : Sc.Ascii s.data.toList) (R : Int × Nat × Int) (HR : Hid (Sc.readTok s.data.toList = R)) (c1 : ((s.extract 0 (min 2 (s.size : Int)).toNat).toList == [35, 40]) = false) (c2 : ((s.extract 0 (min 2 (s.size : Int)).toNat).toList == [44, 64]) = true) :
    Calls Tryd.prog 56 #[.string s] w fun e w' => e = .returned (.tuple #[.int .i64 R.1, .int .i64 (R.2.1 : Nat), .int .i64 R.2.2]) ∧ Below w.heap.size w w' := by
  have HE : Hid (R = (4, 2, 0)) := HR.out.symm.trans (by unfold Sc.readTok; rw [← Sc.take2 s]; simp only [Sc.head0 s h1]; simp [c1, c2])
  clear _ha
  go_enter Tryd.func56, Tryd.ntmps56
  go_wp2
  go_ret3
  exact ⟨by rw [HE.out]; rfl, Below.refl _ _⟩

set_option maxHeartbeats 400000 in
theorem readToken_c3 (s : ByteArray) (w : World) (hs : s.size ≤ 4096) (h1 : 0 < s.size) (_ha : Sc.Ascii s.data.toList) (R : Int × Nat × Int) (HR : Hid (Sc.readTok s.data.toList = R)) (c1 : ((s.extract 0 (min 2 (s.size : Int)).toNat).toList == [35, 40]) = false) (c2 : ((s.extract 0 (min 2 (s.size : Int)).toNat).toList == [44, 64]) = false) (c3 : ((s.extract 0 (min 2 (s.size : Int)).toNat).toList == [35, 59]) = true) :
    Calls Tryd.prog 56 #[.string s] w fun e w' => e = .returned (.tuple #[.int .i64 R.1, .int .i64 (R.2.1 : Nat), .int .i64 R.2.2]) ∧ Below w.heap.size w w' := by
  have HE : Hid (R = (4, 2, 0)) := HR.out.symm.trans (by unfold Sc.readTok; rw [← Sc.take2 s]; simp only [Sc.head0 s h1]; simp [c1, c2, c3])
  clear _ha
  go_enter Tryd.func56, Tryd.ntmps56
  go_wp2
  go_ret3
  exact ⟨by rw [HE.out]; rfl, Below.refl _ _⟩

set_option maxHeartbeats 400000 in
theorem readToken_c4 (s : ByteArray) (w : World) (hs : s.size ≤ 4096) (h1 : 0 < s.size) (_ha : Sc.Ascii s.data.toList) (R : Int × Nat × Int) (HR : Hid (Sc.readTok s.data.toList = R)) (c1 : ((s.extract 0 (min 2 (s.size : Int)).toNat).toList == [35, 40]) = false) (c2 : ((s.extract 0 (min 2 (s.size : Int)).toNat).toList == [44, 64]) = false) (c3 : ((s.extract 0 (min 2 (s.size : Int)).toNat).toList == [35, 59]) = false) (c4 : ((s.extract 0 (min 2 (s.size : Int)).toNat).toList == [35, 124]) = true) :
    Calls Tryd.prog 56 #[.string s] w fun e w' => e = .returned (.tuple #[.int .i64 R.1, .int .i64 (R.2.1 : Nat), .int .i64 R.2.2]) ∧ Below w.heap.size w w' := by
  have HE : Hid (R = (Sc.enK (Sc.blkLen s.data.toList), Sc.blkLen s.data.toList, Sc.enE (Sc.blkLen s.data.toList) 4)) := HR.out.symm.trans (by unfold Sc.readTok; rw [← Sc.take2 s]; simp only [Sc.head0 s h1]; simp [c1, c2, c3, c4])
  clear _ha
  go_enter Tryd.func56, Tryd.ntmps56
  go_wp2_with (first | (go_at_call 73; refine (blockLength_any s _ hs).mono ?_; rintro e w' ⟨rfl, rfl⟩) | (go_at_call 72; refine (endedAtom_any _ _ _).mono ?_; rintro e w' ⟨rfl, rfl⟩))
  go_ret3
  exact ⟨by rw [HE.out]; rfl, Below.refl _ _⟩

set_option maxHeartbeats 400000 in
theorem readToken_d40 (s : ByteArray) (w : World) (hs : s.size ≤ 4096) (h1 : 0 < s.size) (_ha : Sc.Ascii s.data.toList) (R : Int × Nat × Int) (HR : Hid (Sc.readTok s.data.toList = R)) (c1 : ((s.extract 0 (min 2 (s.size : Int)).toNat).toList == [35, 40]) = false) (c2 : ((s.extract 0 (min 2 (s.size : Int)).toNat).toList == [44, 64]) = false) (c3 : ((s.extract 0 (min 2 (s.size : Int)).toNat).toList == [35, 59]) = false) (c4 : ((s.extract 0 (min 2 (s.size : Int)).toNat).toList == [35, 124]) = false) (d40 : ((s[0].toNat : Int) == 40) = true) :
    Calls Tryd.prog 56 #[.string s] w fun e w' => e = .returned (.tuple #[.int .i64 R.1, .int .i64 (R.2.1 : Nat), .int .i64 R.2.2]) ∧ Below w.heap.size w w' := by
  have HE : Hid (R = (2, 1, 0)) := HR.out.symm.trans (by unfold Sc.readTok; rw [← Sc.take2 s]; simp only [Sc.head0 s h1]; simp [c1, c2, c3, c4, d40])
  clear _ha
  go_enter Tryd.func56, Tryd.ntmps56
  go_wp2
  go_ret3
  exact ⟨by rw [HE.out]; rfl, Below.refl _ _⟩

set_option maxHeartbeats 400000 in
theorem readToken_d41 (s : ByteArray) (w : World) (hs : s.size ≤ 4096) (h1 : 0 < s.size) (_ha : Sc.Ascii s.data.toList) (R : Int × Nat × Int) (HR : Hid (Sc.readTok s.data.toList = R)) (c1 : ((s.extract 0 (min 2 (s.size : Int)).toNat).toList == [35, 40]) = false) (c2 : ((s.extract 0 (min 2 (s.size : Int)).toNat).toList == [44, 64]) = false) (c3 : ((s.extract 0 (min 2 (s.size : Int)).toNat).toList == [35, 59]) = false) (c4 : ((s.extract 0 (min 2 (s.size : Int)).toNat).toList == [35, 124]) = false) (d40 : ((s[0].toNat : Int) == 40) = false) (d41 : ((s[0].toNat : Int) == 41) = true) :
    Calls Tryd.prog 56 #[.string s] w fun e w' => e = .returned (.tuple #[.int .i64 R.1, .int .i64 (R.2.1 : Nat), .int .i64 R.2.2]) ∧ Below w.heap.size w w' := by
  have HE : Hid (R = (3, 1, 0)) := HR.out.symm.trans (by unfold Sc.readTok; rw [← Sc.take2 s]; simp only [Sc.head0 s h1]; simp [c1, c2, c3, c4, d40, d41])
  clear _ha
  go_enter Tryd.func56, Tryd.ntmps56
  go_wp2
  go_ret3
  exact ⟨by rw [HE.out]; rfl, Below.refl _ _⟩

set_option maxHeartbeats 400000 in
theorem readToken_d39 (s : ByteArray) (w : World) (hs : s.size ≤ 4096) (h1 : 0 < s.size) (_ha : Sc.Ascii s.data.toList) (R : Int × Nat × Int) (HR : Hid (Sc.readTok s.data.toList = R)) (c1 : ((s.extract 0 (min 2 (s.size : Int)).toNat).toList == [35, 40]) = false) (c2 : ((s.extract 0 (min 2 (s.size : Int)).toNat).toList == [44, 64]) = false) (c3 : ((s.extract 0 (min 2 (s.size : Int)).toNat).toList == [35, 59]) = false) (c4 : ((s.extract 0 (min 2 (s.size : Int)).toNat).toList == [35, 124]) = false) (d40 : ((s[0].toNat : Int) == 40) = false) (d41 : ((s[0].toNat : Int) == 41) = false) (d39 : ((s[0].toNat : Int) == 39) = true) :
    Calls Tryd.prog 56 #[.string s] w fun e w' => e = .returned (.tuple #[.int .i64 R.1, .int .i64 (R.2.1 : Nat), .int .i64 R.2.2]) ∧ Below w.heap.size w w' := by
  have HE : Hid (R = (4, 1, 0)) := HR.out.symm.trans (by unfold Sc.readTok; rw [← Sc.take2 s]; simp only [Sc.head0 s h1]; simp [c1, c2, c3, c4, d40, d41, d39])
  clear _ha
  go_enter Tryd.func56, Tryd.ntmps56
  go_wp2
  go_ret3
  exact ⟨by rw [HE.out]; rfl, Below.refl _ _⟩

set_option maxHeartbeats 400000 in
theorem readToken_d96 (s : ByteArray) (w : World) (hs : s.size ≤ 4096) (h1 : 0 < s.size) (_ha : Sc.Ascii s.data.toList) (R : Int × Nat × Int) (HR : Hid (Sc.readTok s.data.toList = R)) (c1 : ((s.extract 0 (min 2 (s.size : Int)).toNat).toList == [35, 40]) = false) (c2 : ((s.extract 0 (min 2 (s.size : Int)).toNat).toList == [44, 64]) = false) (c3 : ((s.extract 0 (min 2 (s.size : Int)).toNat).toList == [35, 59]) = false) (c4 : ((s.extract 0 (min 2 (s.size : Int)).toNat).toList == [35, 124]) = false) (d40 : ((s[0].toNat : Int) == 40) = false) (d41 : ((s[0].toNat : Int) == 41) = false) (d39 : ((s[0].toNat : Int) == 39) = false) (d96 : ((s[0].toNat : Int) == 96) = true) :
    Calls Tryd.prog 56 #[.string s] w fun e w' => e = .returned (.tuple #[.int .i64 R.1, .int .i64 (R.2.1 : Nat), .int .i64 R.2.2]) ∧ Below w.heap.size w w' := by
  have HE : Hid (R = (4, 1, 0)) := HR.out.symm.trans (by unfold Sc.readTok; rw [← Sc.take2 s]; simp only [Sc.head0 s h1]; simp [c1, c2, c3, c4, d40, d41, d39, d96])
  clear _ha
  go_enter Tryd.func56, Tryd.ntmps56
  go_wp2
  go_ret3
  exact ⟨by rw [HE.out]; rfl, Below.refl _ _⟩

set_option maxHeartbeats 400000 in
theorem readToken_d44 (s : ByteArray) (w : World) (hs : s.size ≤ 4096) (h1 : 0 < s.size) (_ha : Sc.Ascii s.data.toList) (R : Int × Nat × Int) (HR : Hid (Sc.readTok s.data.toList = R)) (c1 : ((s.extract 0 (min 2 (s.size : Int)).toNat).toList == [35, 40]) = false) (c2 : ((s.extract 0 (min 2 (s.size : Int)).toNat).toList == [44, 64]) = false) (c3 : ((s.extract 0 (min 2 (s.size : Int)).toNat).toList == [35, 59]) = false) (c4 : ((s.extract 0 (min 2 (s.size : Int)).toNat).toList == [35, 124]) = false) (d40 : ((s[0].toNat : Int) == 40) = false) (d41 : ((s[0].toNat : Int) == 41) = false) (d39 : ((s[0].toNat : Int) == 39) = false) (d96 : ((s[0].toNat : Int) == 96) = false) (d44 : ((s[0].toNat : Int) == 44) = true) :
    Calls Tryd.prog 56 #[.string s] w fun e w' => e = .returned (.tuple #[.int .i64 R.1, .int .i64 (R.2.1 : Nat), .int .i64 R.2.2]) ∧ Below w.heap.size w w' := by
  have HE : Hid (R = (4, 1, 0)) := HR.out.symm.trans (by unfold Sc.readTok; rw [← Sc.take2 s]; simp only [Sc.head0 s h1]; simp [c1, c2, c3, c4, d40, d41, d39, d96, d44])
  clear _ha
  go_enter Tryd.func56, Tryd.ntmps56
  go_wp2
  go_ret3
  exact ⟨by rw [HE.out]; rfl, Below.refl _ _⟩

set_option maxHeartbeats 400000 in
theorem readToken_d59 (s : ByteArray) (w : World) (hs : s.size ≤ 4096) (h1 : 0 < s.size) (_ha : Sc.Ascii s.data.toList) (R : Int × Nat × Int) (HR : Hid (Sc.readTok s.data.toList = R)) (c1 : ((s.extract 0 (min 2 (s.size : Int)).toNat).toList == [35, 40]) = false) (c2 : ((s.extract 0 (min 2 (s.size : Int)).toNat).toList == [44, 64]) = false) (c3 : ((s.extract 0 (min 2 (s.size : Int)).toNat).toList == [35, 59]) = false) (c4 : ((s.extract 0 (min 2 (s.size : Int)).toNat).toList == [35, 124]) = false) (d40 : ((s[0].toNat : Int) == 40) = false) (d41 : ((s[0].toNat : Int) == 41) = false) (d39 : ((s[0].toNat : Int) == 39) = false) (d96 : ((s[0].toNat : Int) == 96) = false) (d44 : ((s[0].toNat : Int) == 44) = false) (d59 : ((s[0].toNat : Int) == 59) = true) :
    Calls Tryd.prog 56 #[.string s] w fun e w' => e = .returned (.tuple #[.int .i64 R.1, .int .i64 (R.2.1 : Nat), .int .i64 R.2.2]) ∧ Below w.heap.size w w' := by
  have HE : Hid (R = (5, Sc.trimLen s.data.toList, 0)) := HR.out.symm.trans (by unfold Sc.readTok; rw [← Sc.take2 s]; simp only [Sc.head0 s h1]; simp [c1, c2, c3, c4, d40, d41, d39, d96, d44, d59])
  clear _ha
  go_enter Tryd.func56, Tryd.ntmps56
  go_wp2_with (go_at_call 74; refine (trimRight_any s _ hs).mono ?_; rintro e w' ⟨rfl, hB⟩)
  go_ret3
  exact ⟨by rw [HE.out]; simp [Sc.trimLen], hB⟩

set_option maxHeartbeats 400000 in
theorem readToken_d34 (s : ByteArray) (w : World) (hs : s.size ≤ 4096) (h1 : 0 < s.size) (_ha : Sc.Ascii s.data.toList) (R : Int × Nat × Int) (HR : Hid (Sc.readTok s.data.toList = R)) (c1 : ((s.extract 0 (min 2 (s.size : Int)).toNat).toList == [35, 40]) = false) (c2 : ((s.extract 0 (min 2 (s.size : Int)).toNat).toList == [44, 64]) = false) (c3 : ((s.extract 0 (min 2 (s.size : Int)).toNat).toList == [35, 59]) = false) (c4 : ((s.extract 0 (min 2 (s.size : Int)).toNat).toList == [35, 124]) = false) (d40 : ((s[0].toNat : Int) == 40) = false) (d41 : ((s[0].toNat : Int) == 41) = false) (d39 : ((s[0].toNat : Int) == 39) = false) (d96 : ((s[0].toNat : Int) == 96) = false) (d44 : ((s[0].toNat : Int) == 44) = false) (d59 : ((s[0].toNat : Int) == 59) = false) (d34 : ((s[0].toNat : Int) == 34) = true) :
    Calls Tryd.prog 56 #[.string s] w fun e w' => e = .returned (.tuple #[.int .i64 R.1, .int .i64 (R.2.1 : Nat), .int .i64 R.2.2]) ∧ Below w.heap.size w w' := by
  have HE : Hid (R = (Sc.enK (Sc.strLen s.data.toList), Sc.strLen s.data.toList, Sc.enE (Sc.strLen s.data.toList) 3)) := HR.out.symm.trans (by unfold Sc.readTok; rw [← Sc.take2 s]; simp only [Sc.head0 s h1]; simp [c1, c2, c3, c4, d40, d41, d39, d96, d44, d59, d34])
  clear _ha
  go_enter Tryd.func56, Tryd.ntmps56
  go_wp2_with (first | (go_at_call 75; refine (stringLength_any s _ hs).mono ?_; rintro e w' ⟨rfl, rfl⟩) | (go_at_call 72; refine (endedAtom_any _ _ _).mono ?_; rintro e w' ⟨rfl, rfl⟩))
  go_ret3
  exact ⟨by rw [HE.out]; rfl, Below.refl _ _⟩

set_option maxHeartbeats 400000 in
theorem readToken_rest (s : ByteArray) (w : World) (hs : s.size ≤ 4096) (h1 : 0 < s.size) (ha : Sc.Ascii s.data.toList) (R : Int × Nat × Int) (HR : Hid (Sc.readTok s.data.toList = R)) (c1 : ((s.extract 0 (min 2 (s.size : Int)).toNat).toList == [35, 40]) = false) (c2 : ((s.extract 0 (min 2 (s.size : Int)).toNat).toList == [44, 64]) = false) (c3 : ((s.extract 0 (min 2 (s.size : Int)).toNat).toList == [35, 59]) = false) (c4 : ((s.extract 0 (min 2 (s.size : Int)).toNat).toList == [35, 124]) = false) (d40 : ((s[0].toNat : Int) == 40) = false) (d41 : ((s[0].toNat : Int) == 41) = false) (d39 : ((s[0].toNat : Int) == 39) = false) (d96 : ((s[0].toNat : Int) == 96) = false) (d44 : ((s[0].toNat : Int) == 44) = false) (d59 : ((s[0].toNat : Int) == 59) = false) (d34 : ((s[0].toNat : Int) == 34) = false) :
    Calls Tryd.prog 56 #[.string s] w fun e w' => e = .returned (.tuple #[.int .i64 R.1, .int .i64 (R.2.1 : Nat), .int .i64 R.2.2]) ∧ Below w.heap.size w w' := by
  have HE : Hid (R = (1, Sc.atomLen s.data.toList, 0)) := HR.out.symm.trans (by unfold Sc.readTok; rw [← Sc.take2 s]; simp only [Sc.head0 s h1]; simp [c1, c2, c3, c4, d40, d41, d39, d96, d44, d59, d34])
  have HA := hide ha; clear ha
  go_enter Tryd.func56, Tryd.ntmps56
  go_wp2_with (go_at_call 76; refine (atomLength_any s _ hs HA.out).mono ?_; rintro e w' ⟨rfl, hB⟩)
  go_ret3
  exact ⟨by rw [HE.out]; rfl, hB⟩

theorem readToken_any (s : ByteArray) (w : World) (hs : s.size ≤ 4096) (h1 : 0 < s.size) (ha : Sc.Ascii s.data.toList) :
    Calls Tryd.prog 56 #[.string s] w fun e w' => e = .returned (.tuple #[.int .i64 (Sc.readTok s.data.toList).1, .int .i64 ((Sc.readTok s.data.toList).2.1 : Nat), .int .i64 (Sc.readTok s.data.toList).2.2]) ∧ Below w.heap.size w w' := by
  have HR : Hid (Sc.readTok s.data.toList = Sc.readTok s.data.toList) := rfl
  cases c1 : ((s.extract 0 (min 2 (s.size : Int)).toNat).toList == [35, 40]) with
  | true => exact readToken_c1 s w hs h1 ha _ HR c1
  | false =>
  cases c2 : ((s.extract 0 (min 2 (s.size : Int)).toNat).toList == [44, 64]) with
  | true => exact readToken_c2 s w hs h1 ha _ HR c1 c2
  | false =>
  cases c3 : ((s.extract 0 (min 2 (s.size : Int)).toNat).toList == [35, 59]) with
  | true => exact readToken_c3 s w hs h1 ha _ HR c1 c2 c3
  | false =>
  cases c4 : ((s.extract 0 (min 2 (s.size : Int)).toNat).toList == [35, 124]) with
  | true => exact readToken_c4 s w hs h1 ha _ HR c1 c2 c3 c4
  | false =>
  cases d40 : ((s[0].toNat : Int) == 40) with
  | true => exact readToken_d40 s w hs h1 ha _ HR c1 c2 c3 c4 d40
  | false =>
  cases d41 : ((s[0].toNat : Int) == 41) with
  | true => exact readToken_d41 s w hs h1 ha _ HR c1 c2 c3 c4 d40 d41
  | false =>
  cases d39 : ((s[0].toNat : Int) == 39) with
  | true => exact readToken_d39 s w hs h1 ha _ HR c1 c2 c3 c4 d40 d41 d39
  | false =>
  cases d96 : ((s[0].toNat : Int) == 96) with
  | true => exact readToken_d96 s w hs h1 ha _ HR c1 c2 c3 c4 d40 d41 d39 d96
  | false =>
  cases d44 : ((s[0].toNat : Int) == 44) with
  | true => exact readToken_d44 s w hs h1 ha _ HR c1 c2 c3 c4 d40 d41 d39 d96 d44
  | false =>
  cases d59 : ((s[0].toNat : Int) == 59) with
  | true => exact readToken_d59 s w hs h1 ha _ HR c1 c2 c3 c4 d40 d41 d39 d96 d44 d59
  | false =>
  cases d34 : ((s[0].toNat : Int) == 34) with
  | true => exact readToken_d34 s w hs h1 ha _ HR c1 c2 c3 c4 d40 d41 d39 d96 d44 d59 d34
  | false =>
  exact readToken_rest s w hs h1 ha _ HR c1 c2 c3 c4 d40 d41 d39 d96 d44 d59 d34
end Go.Proofs.YtigdfhcmhidhbaaDoor
