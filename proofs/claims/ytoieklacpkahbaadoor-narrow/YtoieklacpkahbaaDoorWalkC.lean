/- Walks: stringLength, blockLength, strangeByte. -/
/- Walks: the library's functions as the program calls them; skipBlanks, atomLength, endedAtom, Clone. -/
/- Walks: readToken. -/
import Derived.Test.YtoieklacpkahbaaDoorPlainE
import Derived.Test.YtoieklacpkahbaaDoorRows
import Derived.WalkKit
import Derived.WalkSpells
import Derived.WalkLawsBesides
import Derived.Test.YtoieklacpkahbaaDoorShelf
namespace Go.Proofs.YtoieklacpkahbaaDoor
open Go.RowKit

theorem ret_int {k : IntKind} {a b : Int} (h : a = b) : Ending.returned (.int k a) = .returned (.int k b) := by rw [h]

set_option maxHeartbeats 400000 in
theorem stringLength_any (s : ByteArray) (w : World) (hs : s.size ≤ 4096) :
    Calls Tryd.prog 75 #[.string s] w fun e w' => e = .returned (.int .i64 (Sc.strLen s.data.toList : Nat)) ∧ w' = w := by
  have hz := Sc.lsize s
  go_enter Tryd.func75, Tryd.ntmps75
  go_wp2
  go_loop [3] (fun i => ∃ k : Nat, k ≤ s.size + 1 ∧ i = .int .i64 k ∧ Hid (Sc.strLen s.data.toList = Sc.strGo (s.data.toList.drop k) k)) (fun i => s.size + 2 - (intOf i).toNat)
  case atStart => exact ⟨1, by omega, rfl, rfl⟩
  case round =>
    obtain ⟨k, hk, rfl, HK⟩ := hrel
    by_cases hlt : k < s.size
    · go_wp2
      · have h0 : ((s[k].toNat : Int) == 92) = true := by assumption
        have h1 : s[k] = 92 := Sc.u8t h0
        go_round
        case rel => exact ⟨k + 2, by omega, by go_num, HK.out.trans (Sc.strGo_esc _ _ (by omega) h1)⟩
        case measure => simp [intOf]; omega
      · have h0 : ((s[k].toNat : Int) == 34) = true := by assumption
        have h1 : s[k] = 34 := Sc.u8t h0
        go_ret
        exact ⟨ret_int (by rw [HK.out, Sc.strGo_hit _ _ (by omega) h1]; omega), rfl⟩
      · have h0 : ((s[k].toNat : Int) == 92) = false := by assumption
        have h1 : s[k] ≠ 92 := Sc.u8f h0
        have h0' : ((s[k].toNat : Int) == 34) = false := by assumption
        have h2 : s[k] ≠ 34 := Sc.u8f h0'
        go_round
        case rel => exact ⟨k + 1, by omega, by go_num, HK.out.trans (Sc.strGo_on _ _ (by omega) h1 h2)⟩
        case measure => simp [intOf]; omega
    · go_wp2
      go_ret
      exact ⟨ret_int (by rw [HK.out, Sc.strGo_end _ _ (by omega)]; rfl), rfl⟩

set_option maxHeartbeats 400000 in
theorem strangeByte_any (s : ByteArray) (w : World) (hs : s.size ≤ 4096) :
    Calls Tryd.prog 25 #[.string s] w fun e w' => e = .returned (.int .i64 (Sc.strangeAt s.data.toList)) ∧ w' = w := by
  have hz := Sc.lsize s
  go_enter Tryd.func25, Tryd.ntmps25
  go_wp2
  go_loop [7] (fun i => ∃ k : Nat, k ≤ s.size ∧ i = .int .i64 k ∧ Hid (Sc.strangeAt s.data.toList = Sc.strangeI (s.data.toList.drop k) k)) (fun i => s.size - (intOf i).toNat)
  case atStart => exact ⟨0, by omega, rfl, rfl⟩
  case round =>
    obtain ⟨k, hk, rfl, HK⟩ := hrel
    by_cases hlt : k < s.size
    · by_cases h9 : (s[k].toNat : Int) = 9
      · have hst := Sc.strange_no (c := s[k]) (.inl h9)
        have HS := hide hst; clear hst
        go_wp2
        go_round
        case rel => exact ⟨k + 1, by omega, by go_num, HK.out.trans (Sc.strangeI_on _ _ (by omega) (unhide HS))⟩
        case measure => simp [intOf]; omega
      by_cases h10 : (s[k].toNat : Int) = 10
      · have hst := Sc.strange_no (c := s[k]) (.inr (.inl h10))
        have HS := hide hst; clear hst
        go_wp2
        go_round
        case rel => exact ⟨k + 1, by omega, by go_num, HK.out.trans (Sc.strangeI_on _ _ (by omega) (unhide HS))⟩
        case measure => simp [intOf]; omega
      have b9 : ((s[k].toNat : Int) != 9) = true := by simpa using h9
      have b10 : ((s[k].toNat : Int) != 10) = true := by simpa using h10
      by_cases hlo : (s[k].toNat : Int) < 32
      · have hst := Sc.strange_yes (c := s[k]) h9 h10 (.inl hlo)
        have HS := hide hst; clear hst
        go_wp2
        go_ret
        exact ⟨ret_int (by rw [HK.out, Sc.strangeI_hit _ _ (by omega) (unhide HS)]), rfl⟩
      by_cases hhi : 126 < (s[k].toNat : Int)
      · have hst := Sc.strange_yes (c := s[k]) h9 h10 (.inr hhi)
        have HS := hide hst; clear hst
        go_wp2
        go_ret
        exact ⟨ret_int (by rw [HK.out, Sc.strangeI_hit _ _ (by omega) (unhide HS)]), rfl⟩
      · have hst := Sc.strange_no (c := s[k]) (.inr (.inr (by omega)))
        have HS := hide hst; clear hst
        go_wp2
        go_round
        case rel => exact ⟨k + 1, by omega, by go_num, HK.out.trans (Sc.strangeI_on _ _ (by omega) (unhide HS))⟩
        case measure => simp [intOf]; omega
    · go_wp2
      go_ret
      exact ⟨ret_int (by rw [HK.out, Sc.strangeI_end _ _ (by omega)]), rfl⟩

set_option maxHeartbeats 400000 in
theorem blockLength_any (s : ByteArray) (w : World) (hs : s.size ≤ 4096) :
    Calls Tryd.prog 73 #[.string s] w fun e w' => e = .returned (.int .i64 (Sc.blkLen s.data.toList : Nat)) ∧ w' = w := by
  have hz := Sc.lsize s
  go_enter Tryd.func73, Tryd.ntmps73
  go_wp2
  go_loop [3, 4] (fun o i => ∃ (k : Nat) (p : Int), k ≤ s.size ∧ -k ≤ p ∧ p ≤ k ∧ i = .int .i64 k ∧ o = .int .i64 p ∧ Hid (Sc.blkLen s.data.toList = Sc.blkGo (s.data.toList.drop k) k p)) (fun _ i => s.size - (intOf i).toNat)
  case atStart => exact ⟨0, 0, by omega, by omega, by omega, rfl, rfl, rfl⟩
  case round =>
    obtain ⟨k, p, hk, hp1, hp2, rfl, rfl, HK⟩ := hrel
    by_cases hlt : k + 2 ≤ s.size
    · go_wp2
      · go_ret
        exact ⟨ret_int (by rw [HK.out, Sc.blk1 hlt ‹_› ‹_›]; omega), rfl⟩
      · go_round
        case rel => exact ⟨k + 2, p + 1, by omega, by omega, by omega, by go_num, rfl, HK.out.trans (Sc.blk2 hlt ‹_› ‹_›)⟩
        case measure => simp [intOf]; omega
      · go_ret
        exact ⟨ret_int (by rw [HK.out, Sc.blk3 hlt ‹_› ‹_› ‹_›]; omega), rfl⟩
      · go_round
        case rel => exact ⟨k + 2, p - 1, by omega, by omega, by omega, by go_num, rfl, HK.out.trans (Sc.blk4 hlt ‹_› ‹_› ‹_›)⟩
        case measure => simp [intOf]; omega
      · go_ret
        exact ⟨ret_int (by rw [HK.out, Sc.blk5 hlt ‹_› ‹_› ‹_›]; omega), rfl⟩
      · go_round
        case rel => exact ⟨k + 1, p, by omega, by omega, by omega, by go_num, rfl, HK.out.trans (Sc.blk6 hlt ‹_› ‹_› ‹_›)⟩
        case measure => simp [intOf]; omega
    · go_wp2
      go_ret
      exact ⟨ret_int (by rw [HK.out, Sc.blkGo_end _ _ _ (by omega)]; rfl), rfl⟩
end Go.Proofs.YtoieklacpkahbaaDoor
namespace Go.Proofs.YtoieklacpkahbaaDoor
open Go.RowKit

theorem ix_any (c : UInt8) (w : World) :
    Calls Tryd.prog 71 #[.string ⟨#[32, 9]⟩, .int .u8 (c.toNat : Int)] w fun e w' => e = .returned (.int .i64 (Sc.blIx c)) ∧ w' = w := by
  have h := Any.strings_IndexByte Tryd.lays137 ⟨#[32, 9]⟩ (c.toNat : Int) w
  have e : ((c.toNat : Int)).toNat.toUInt8 = c := by simp
  rw [e] at h
  exact h

theorem clone_any (s : ByteArray) (w : World) (hs : s.size ≤ 4096) :
    Calls Tryd.prog 57 #[.string s] w fun e w' => e = .returned (.string s) ∧ Below w.heap.size w w' := by
  have h : Calls Tryd.prog 77 #[.string s] w fun e w' => e = .returned (.string s) ∧ Below w.heap.size w w' := Any.stringslite_Clone Tryd.laysM316 s w (by omega)
  go_enter Tryd.func57, Tryd.ntmps57
  go_wp2_with (go_at_call 77; refine h.mono ?_; rintro e w' ⟨rfl, hB⟩)
  go_ret
  exact ⟨rfl, hB⟩

theorem trimRight_any (s : ByteArray) (w : World) (hs : s.size ≤ 4096) :
    Calls Tryd.prog 74 #[.string s, .string ⟨#[32, 9]⟩] w fun e w' => e = .returned (.string ⟨(Lib.trimRightS s.data.toList [32, 9]).toArray⟩) ∧ Below w.heap.size w w' :=
  Any.strings_TrimRight_laid Tryd.lays162 (by kernel_rfl) s ⟨#[32, 9]⟩ w (by omega) (by decide) (ascii_of_all (by decide))

theorem indexAny_any (s : ByteArray) (w : World) (hs : s.size ≤ 4096) (ha : Sc.Ascii s.data.toList) :
    Calls Tryd.prog 95 #[.string s, .string ⟨#[32, 9, 40, 41, 39, 44, 34, 59, 96]⟩] w fun e w' => e = .returned (.int .i64 (Sc.atomIx s.data.toList)) ∧ Below w.heap.size w w' :=
  Any.strings_IndexAny_laid Tryd.lays153 (by kernel_rfl) s ⟨#[32, 9, 40, 41, 39, 44, 34, 59, 96]⟩ w (by omega) (by decide) ha (ascii_of_all (by decide))

set_option maxHeartbeats 400000 in
theorem skip_any (s : ByteArray) (a : Int) (w : World) (hs : s.size ≤ 4096) (h0 : 0 ≤ a) (h1 : a ≤ s.size) :
    Calls Tryd.prog 55 #[.string s, .int .i64 a] w fun e w' => e = .returned (.int .i64 (Sc.skipB s.data.toList a.toNat : Nat)) ∧ w' = w := by
  have hz := Sc.lsize s
  obtain ⟨n, rfl⟩ := Int.eq_ofNat_of_zero_le h0
  rw [Int.toNat_natCast]
  go_enter Tryd.func55, Tryd.ntmps55
  go_wp2
  go_loop [1] (fun i => ∃ k : Nat, k ≤ s.size ∧ i = .int .i64 k ∧ Hid (Sc.skipB s.data.toList n = Sc.skipB s.data.toList k)) (fun i => s.size - (intOf i).toNat)
  case atStart => exact ⟨n, by omega, rfl, rfl⟩
  case round =>
    obtain ⟨k, hk, rfl, HK⟩ := hrel
    by_cases hlt : k < s.size
    · cases hb : Sc.isBl s[k] with
      | true =>
        have hi := Sc.blIx_yes hb
        have HS := hide (HK.out.trans (Sc.skipB_hit _ k (by omega) hb)); clear hb HK
        go_wp2_with (go_at_call 71; refine (ix_any s[k] _).mono ?_; rintro e w' ⟨rfl, rfl⟩)
        go_round
        case rel => exact ⟨k + 1, by omega, by go_num, HS⟩
        case measure => simp [intOf]; omega
      | false =>
        have hi := Sc.blIx_no hb
        have HS := hide (HK.out.trans (Sc.skipB_miss _ k (by omega) hb)); clear hb HK
        go_wp2_with (go_at_call 71; refine (ix_any s[k] _).mono ?_; rintro e w' ⟨rfl, rfl⟩)
        go_ret
        exact ⟨ret_int (by rw [HS.out]), rfl⟩
    · go_wp2
      go_ret
      exact ⟨ret_int (by rw [HK.out, Sc.skipB_end _ _ (by omega)]), rfl⟩

set_option maxHeartbeats 400000 in
theorem atomLength_any (s : ByteArray) (w : World) (hs : s.size ≤ 4096) (ha : Sc.Ascii s.data.toList) :
    Calls Tryd.prog 76 #[.string s] w fun e w' => e = .returned (.int .i64 (Sc.atomLen s.data.toList : Nat)) ∧ Below w.heap.size w w' := by
  have hz := Sc.lsize s
  have HA := hide ha; clear ha
  by_cases h : 0 ≤ Sc.atomIx s.data.toList
  · have e1 : ((Sc.atomLen s.data.toList : Nat) : Int) = Sc.atomIx s.data.toList := (Sc.atomIx_len _).1 h
    have H1 := hide e1; clear e1
    go_enter Tryd.func76, Tryd.ntmps76
    go_wp2_with (go_at_call 95; refine (indexAny_any s _ hs HA.out).mono ?_; rintro e w' ⟨rfl, hB⟩)
    go_ret
    exact ⟨ret_int H1.out.symm, hB⟩
  · have e1 : ((Sc.atomLen s.data.toList : Nat) : Int) = s.size := by have := (Sc.atomIx_len s.data.toList).2 (by omega); omega
    have H1 := hide e1; clear e1
    go_enter Tryd.func76, Tryd.ntmps76
    go_wp2_with (go_at_call 95; refine (indexAny_any s _ hs HA.out).mono ?_; rintro e w' ⟨rfl, hB⟩)
    go_ret
    exact ⟨ret_int H1.out.symm, hB⟩

theorem endedAtom_any (n : Nat) (m : Int) (w : World) :
    Calls Tryd.prog 72 #[.int .i64 n, .int .i64 m] w fun e w' =>
      e = .returned (.tuple #[.int .i64 (Sc.enK n), .int .i64 n, .int .i64 (Sc.enE n m)]) ∧ w' = w := by
  unfold Sc.enK Sc.enE
  by_cases h : n = 0
  · subst h
    go_enter Tryd.func72, Tryd.ntmps72
    go_wp2
    go_ret3
    exact ⟨rfl, rfl⟩
  · have hb : ((n : Int) == 0) = false := by simpa using h
    rw [if_neg h, if_neg h]
    go_enter Tryd.func72, Tryd.ntmps72
    go_wp2
    go_ret3
    exact ⟨rfl, rfl⟩
end Go.Proofs.YtoieklacpkahbaaDoor
namespace Go.Proofs.YtoieklacpkahbaaDoor
open Go.RowKit

set_option maxHeartbeats 400000 in
theorem readToken_c1 (s : ByteArray) (w : World) (hs : s.size ≤ 4096) (h1 : 0 < s.size) (_ha : Sc.Ascii s.data.toList) (R : Int × Nat × Int) (HR : Hid (Sc.readTok s.data.toList = R)) (c1 : ((s.extract 0 (min 2 (s.size : Int)).toNat).toList == [35, 40]) = true) :
    Calls Tryd.prog 56 #[.string s] w fun e w' => e = .returned (.tuple #[.int .i64 R.1, .int .i64 (R.2.1 : Nat), .int .i64 R.2.2]) ∧ Below w.heap.size w w' := by
  have HE : Hid (R = (2, 2, 0)) := HR.out.symm.trans (by unfold Sc.readTok; rw [← Sc.take2 s]; simp only [Sc.head0 s h1]; simp [c1])
  clear _ha
  go_enter Tryd.func56, Tryd.ntmps56
  go_wp2
  go_ret3
  exact ⟨by rw [HE.out]; rfl, Below.refl _ _⟩

set_option maxHeartbeats 400000 in
theorem readToken_c2 (s : ByteArray) (w : World) (hs : s.size ≤ 4096) (h1 : 0 < s.size) (_ha : Sc.Ascii s.data.toList) (R : Int × Nat × Int) (HR : Hid (Sc.readTok s.data.toList = R)) (c1 : ((s.extract 0 (min 2 (s.size : Int)).toNat).toList == [35, 40]) = false) (c2 : ((s.extract 0 (min 2 (s.size : Int)).toNat).toList == [44, 64]) = true) :
    Calls Tryd.prog 56 #[.string s] w fun e w' => e = .returned (.tuple #[.int .i64 R.1, .int .i64 (R.2.1 : Nat), .int .i64 R.2.2]) ∧ Below w.heap.size w w' := by
  have HE : Hid (R = (4, 2, 0)) := HR.out.symm.trans (by unfold Sc.readTok; rw [← Sc.take2 s]; simp only [Sc.head0 s h1]; simp [c1, c2])
  clear _ha
  go_enter Tryd.func56, Tryd.ntmps56
  go_wp2
  go_ret3
  exact ⟨by rw [HE.out]; rfl, Below.refl _ _⟩

set_option maxHeartbeats 400000 in
theorem readToken_c3 (s : ByteArray) (w : World) (hs : s.size ≤ 4096) (h1 : 0 < s.size) (_ha : Sc.Ascii s.data.toList) (R : Int × Nat × Int) (HR : Hid (Sc.readTok s.data.toList = R)) (c1 : ((s.extract 0 (min 2 (s.size : Int)).toNat).toList == [35, 40]) = false) (c2 : ((s.extract 0 (min 2 (s.size : Int)).toNat).toList == [44, 64]) = false) (c3 : ((s.extract 0 (min 2 (s.size : Int)).toNat).toList == [35, 59]) = true) :
    Calls Tryd.prog 56 #[.string s] w fun e w' => e = .returned (.tuple #[.int .i64 R.1, .int .i64 (R.2.1 : Nat), .int .i64 R.2.2]) ∧ Below w.heap.size w w' := by
  have HE : Hid (R = (4, 2, 0)) := HR.out.symm.trans (by unfold Sc.readTok; rw [← Sc.take2 s]; simp only [Sc.head0 s h1]; simp [c1, c2, c3])
  clear _ha
  go_enter Tryd.func56, Tryd.ntmps56
  go_wp2
  go_ret3
  exact ⟨by rw [HE.out]; rfl, Below.refl _ _⟩

set_option maxHeartbeats 400000 in
theorem readToken_c4 (s : ByteArray) (w : World) (hs : s.size ≤ 4096) (h1 : 0 < s.size) (_ha : Sc.Ascii s.data.toList) (R : Int × Nat × Int) (HR : Hid (Sc.readTok s.data.toList = R)) (c1 : ((s.extract 0 (min 2 (s.size : Int)).toNat).toList == [35, 40]) = false) (c2 : ((s.extract 0 (min 2 (s.size : Int)).toNat).toList == [44, 64]) = false) (c3 : ((s.extract 0 (min 2 (s.size : Int)).toNat).toList == [35, 59]) = false) (c4 : ((s.extract 0 (min 2 (s.size : Int)).toNat).toList == [35, 124]) = true) :
    Calls Tryd.prog 56 #[.string s] w fun e w' => e = .returned (.tuple #[.int .i64 R.1, .int .i64 (R.2.1 : Nat), .int .i64 R.2.2]) ∧ Below w.heap.size w w' := by
  have HE : Hid (R = (Sc.enK (Sc.blkLen s.data.toList), Sc.blkLen s.data.toList, Sc.enE (Sc.blkLen s.data.toList) 4)) := HR.out.symm.trans (by unfold Sc.readTok; rw [← Sc.take2 s]; simp only [Sc.head0 s h1]; simp [c1, c2, c3, c4])
  clear _ha
  go_enter Tryd.func56, Tryd.ntmps56
  go_wp2_with (first | (go_at_call 73; refine (blockLength_any s _ hs).mono ?_; rintro e w' ⟨rfl, rfl⟩) | (go_at_call 72; refine (endedAtom_any _ _ _).mono ?_; rintro e w' ⟨rfl, rfl⟩))
  go_ret3
  exact ⟨by rw [HE.out]; rfl, Below.refl _ _⟩

set_option maxHeartbeats 400000 in
theorem readToken_d40 (s : ByteArray) (w : World) (hs : s.size ≤ 4096) (h1 : 0 < s.size) (_ha : Sc.Ascii s.data.toList) (R : Int × Nat × Int) (HR : Hid (Sc.readTok s.data.toList = R)) (c1 : ((s.extract 0 (min 2 (s.size : Int)).toNat).toList == [35, 40]) = false) (c2 : ((s.extract 0 (min 2 (s.size : Int)).toNat).toList == [44, 64]) = false) (c3 : ((s.extract 0 (min 2 (s.size : Int)).toNat).toList == [35, 59]) = false) (c4 : ((s.extract 0 (min 2 (s.size : Int)).toNat).toList == [35, 124]) = false) (d40 : ((s[0].toNat : Int) == 40) = true) :
    Calls Tryd.prog 56 #[.string s] w fun e w' => e = .returned (.tuple #[.int .i64 R.1, .int .i64 (R.2.1 : Nat), .int .i64 R.2.2]) ∧ Below w.heap.size w w' := by
  have HE : Hid (R = (2, 1, 0)) := HR.out.symm.trans (by unfold Sc.readTok; rw [← Sc.take2 s]; simp only [Sc.head0 s h1]; simp [c1, c2, c3, c4, d40])
  clear _ha
  go_enter Tryd.func56, Tryd.ntmps56
  go_wp2
  go_ret3
  exact ⟨by rw [HE.out]; rfl, Below.refl _ _⟩

set_option maxHeartbeats 400000 in
theorem readToken_d41 (s : ByteArray) (w : World) (hs : s.size ≤ 4096) (h1 : 0 < s.size) (_ha : Sc.Ascii s.data.toList) (R : Int × Nat × Int) (HR : Hid (Sc.readTok s.data.toList = R)) (c1 : ((s.extract 0 (min 2 (s.size : Int)).toNat).toList == [35, 40]) = false) (c2 : ((s.extract 0 (min 2 (s.size : Int)).toNat).toList == [44, 64]) = false) (c3 : ((s.extract 0 (min 2 (s.size : Int)).toNat).toList == [35, 59]) = false) (c4 : ((s.extract 0 (min 2 (s.size : Int)).toNat).toList == [35, 124]) = false) (d40 : ((s[0].toNat : Int) == 40) = false) (d41 : ((s[0].toNat : Int) == 41) = true) :
    Calls Tryd.prog 56 #[.string s] w fun e w' => e = .returned (.tuple #[.int .i64 R.1, .int .i64 (R.2.1 : Nat), .int .i64 R.2.2]) ∧ Below w.heap.size w w' := by
  have HE : Hid (R = (3, 1, 0)) := HR.out.symm.trans (by unfold Sc.readTok; rw [← Sc.take2 s]; simp only [Sc.head0 s h1]; simp [c1, c2, c3, c4, d40, d41])
  clear _ha
  go_enter Tryd.func56, Tryd.ntmps56
  go_wp2
  go_ret3
  exact ⟨by rw [HE.out]; rfl, Below.refl _ _⟩

set_option maxHeartbeats 400000 in
theorem readToken_d39 (s : ByteArray) (w : World) (hs : s.size ≤ 4096) (h1 : 0 < s.size) (_ha : Sc.Ascii s.data.toList) (R : Int × Nat × Int) (HR : Hid (Sc.readTok s.data.toList = R)) (c1 : ((s.extract 0 (min 2 (s.size : Int)).toNat).toList == [35, 40]) = false) (c2 : ((s.extract 0 (min 2 (s.size : Int)).toNat).toList == [44, 64]) = false) (c3 : ((s.extract 0 (min 2 (s.size : Int)).toNat).toList == [35, 59]) = false) (c4 : ((s.extract 0 (min 2 (s.size : Int)).toNat).toList == [35, 124]) = false) (d40 : ((s[0].toNat : Int) == 40) = false) (d41 : ((s[0].toNat : Int) == 41) = false) (d39 : ((s[0].toNat : Int) == 39) = true) :
    Calls Tryd.prog 56 #[.string s] w fun e w' => e = .returned (.tuple #[.int .i64 R.1, .int .i64 (R.2.1 : Nat), .int .i64 R.2.2]) ∧ Below w.heap.size w w' := by
  have HE : Hid (R = (4, 1, 0)) := HR.out.symm.trans (by unfold Sc.readTok; rw [← Sc.take2 s]; simp only [Sc.head0 s h1]; simp [c1, c2, c3, c4, d40, d41, d39])
  clear _ha
  go_enter Tryd.func56, Tryd.ntmps56
  go_wp2
  go_ret3
  exact ⟨by rw [HE.out]; rfl, Below.refl _ _⟩

set_option maxHeartbeats 400000 in
theorem readToken_d96 (s : ByteArray) (w : World) (hs : s.size ≤ 4096) (h1 : 0 < s.size) (_ha : Sc.Ascii s.data.toList) (R : Int × Nat × Int) (HR : Hid (Sc.readTok s.data.toList = R)) (c1 : ((s.extract 0 (min 2 (s.size : Int)).toNat).toList == [35, 40]) = false) (c2 : ((s.extract 0 (min 2 (s.size : Int)).toNat).toList == [44, 64]) = false) (c3 : ((s.extract 0 (min 2 (s.size : Int)).toNat).toList == [35, 59]) = false) (c4 : ((s.extract 0 (min 2 (s.size : Int)).toNat).toList == [35, 124]) = false) (d40 : ((s[0].toNat : Int) == 40) = false) (d41 : ((s[0].toNat : Int) == 41) = false) (d39 : ((s[0].toNat : Int) == 39) = false) (d96 : ((s[0].toNat : Int) == 96) = true) :
    Calls Tryd.prog 56 #[.string s] w fun e w' => e = .returned (.tuple #[.int .i64 R.1, .int .i64 (R.2.1 : Nat), .int .i64 R.2.2]) ∧ Below w.heap.size w w' := by
  have HE : Hid (R = (4, 1, 0)) := HR.out.symm.trans (by unfold Sc.readTok; rw [← Sc.take2 s]; simp only [Sc.head0 s h1]; simp [c1, c2, c3, c4, d40, d41, d39, d96])
  clear _ha
  go_enter Tryd.func56, Tryd.ntmps56
  go_wp2
  go_ret3
  exact ⟨by rw [HE.out]; rfl, Below.refl _ _⟩

set_option maxHeartbeats 400000 in
theorem readToken_d44 (s : ByteArray) (w : World) (hs : s.size ≤ 4096) (h1 : 0 < s.size) (_ha : Sc.Ascii s.data.toList) (R : Int × Nat × Int) (HR : Hid (Sc.readTok s.data.toList = R)) (c1 : ((s.extract 0 (min 2 (s.size : Int)).toNat).toList == [35, 40]) = false) (c2 : ((s.extract 0 (min 2 (s.size : Int)).toNat).toList == [44, 64]) = false) (c3 : ((s.extract 0 (min 2 (s.size : Int)).toNat).toList == [35, 59]) = false) (c4 : ((s.extract 0 (min 2 (s.size : Int)).toNat).toList == [35, 124]) = false) (d40 : ((s[0].toNat : Int) == 40) = false) (d41 : ((s[0].toNat : Int) == 41) = false) (d39 : ((s[0].toNat : Int) == 39) = false) (d96 : ((s[0].toNat : Int) == 96) = false) (d44 : ((s[0].toNat : Int) == 44) = true) :
    Calls Tryd.prog 56 #[.string s] w fun e w' => e = .returned (.tuple #[.int .i64 R.1, .int .i64 (R.2.1 : Nat), .int .i64 R.2.2]) ∧ Below w.heap.size w w' := by
  have HE : Hid (R = (4, 1, 0)) := HR.out.symm.trans (by unfold Sc.readTok; rw [← Sc.take2 s]; simp only [Sc.head0 s h1]; simp [c1, c2, c3, c4, d40, d41, d39, d96, d44])
  clear _ha
  go_enter Tryd.func56, Tryd.ntmps56
  go_wp2
  go_ret3
  exact ⟨by rw [HE.out]; rfl, Below.refl _ _⟩

set_option maxHeartbeats 400000 in
theorem readToken_d59 (s : ByteArray) (w : World) (hs : s.size ≤ 4096) (h1 : 0 < s.size) (_ha : Sc.Ascii s.data.toList) (R : Int × Nat × Int) (HR : Hid (Sc.readTok s.data.toList = R)) (c1 : ((s.extract 0 (min 2 (s.size : Int)).toNat).toList == [35, 40]) = false) (c2 : ((s.extract 0 (min 2 (s.size : Int)).toNat).toList == [44, 64]) = false) (c3 : ((s.extract 0 (min 2 (s.size : Int)).toNat).toList == [35, 59]) = false) (c4 : ((s.extract 0 (min 2 (s.size : Int)).toNat).toList == [35, 124]) = false) (d40 : ((s[0].toNat : Int) == 40) = false) (d41 : ((s[0].toNat : Int) == 41) = false) (d39 : ((s[0].toNat : Int) == 39) = false) (d96 : ((s[0].toNat : Int) == 96) = false) (d44 : ((s[0].toNat : Int) == 44) = false) (d59 : ((s[0].toNat : Int) == 59) = true) :
    Calls Tryd.prog 56 #[.string s] w fun e w' => e = .returned (.tuple #[.int .i64 R.1, .int .i64 (R.2.1 : Nat), .int .i64 R.2.2]) ∧ Below w.heap.size w w' := by
  have HE : Hid (R = (5, Sc.trimLen s.data.toList, 0)) := HR.out.symm.trans (by unfold Sc.readTok; rw [← Sc.take2 s]; simp only [Sc.head0 s h1]; simp [c1, c2, c3, c4, d40, d41, d39, d96, d44, d59])
  clear _ha
  go_enter Tryd.func56, Tryd.ntmps56
  go_wp2_with (go_at_call 74; refine (trimRight_any s _ hs).mono ?_; rintro e w' ⟨rfl, hB⟩)
  go_ret3
  exact ⟨by rw [HE.out]; simp [Sc.trimLen], hB⟩

set_option maxHeartbeats 400000 in
theorem readToken_d34 (s : ByteArray) (w : World) (hs : s.size ≤ 4096) (h1 : 0 < s.size) (_ha : Sc.Ascii s.data.toList) (R : Int × Nat × Int) (HR : Hid (Sc.readTok s.data.toList = R)) (c1 : ((s.extract 0 (min 2 (s.size : Int)).toNat).toList == [35, 40]) = false) (c2 : ((s.extract 0 (min 2 (s.size : Int)).toNat).toList == [44, 64]) = false) (c3 : ((s.extract 0 (min 2 (s.size : Int)).toNat).toList == [35, 59]) = false) (c4 : ((s.extract 0 (min 2 (s.size : Int)).toNat).toList == [35, 124]) = false) (d40 : ((s[0].toNat : Int) == 40) = false) (d41 : ((s[0].toNat : Int) == 41) = false) (d39 : ((s[0].toNat : Int) == 39) = false) (d96 : ((s[0].toNat : Int) == 96) = false) (d44 : ((s[0].toNat : Int) == 44) = false) (d59 : ((s[0].toNat : Int) == 59) = false) (d34 : ((s[0].toNat : Int) == 34) = true) :
    Calls Tryd.prog 56 #[.string s] w fun e w' => e = .returned (.tuple #[.int .i64 R.1, .int .i64 (R.2.1 : Nat), .int .i64 R.2.2]) ∧ Below w.heap.size w w' := by
  have HE : Hid (R = (Sc.enK (Sc.strLen s.data.toList), Sc.strLen s.data.toList, Sc.enE (Sc.strLen s.data.toList) 3)) := HR.out.symm.trans (by unfold Sc.readTok; rw [← Sc.take2 s]; simp only [Sc.head0 s h1]; simp [c1, c2, c3, c4, d40, d41, d39, d96, d44, d59, d34])
  clear _ha
  go_enter Tryd.func56, Tryd.ntmps56
  go_wp2_with (first | (go_at_call 75; refine (stringLength_any s _ hs).mono ?_; rintro e w' ⟨rfl, rfl⟩) | (go_at_call 72; refine (endedAtom_any _ _ _).mono ?_; rintro e w' ⟨rfl, rfl⟩))
  go_ret3
  exact ⟨by rw [HE.out]; rfl, Below.refl _ _⟩

set_option maxHeartbeats 400000 in
theorem readToken_rest (s : ByteArray) (w : World) (hs : s.size ≤ 4096) (h1 : 0 < s.size) (ha : Sc.Ascii s.data.toList) (R : Int × Nat × Int) (HR : Hid (Sc.readTok s.data.toList = R)) (c1 : ((s.extract 0 (min 2 (s.size : Int)).toNat).toList == [35, 40]) = false) (c2 : ((s.extract 0 (min 2 (s.size : Int)).toNat).toList == [44, 64]) = false) (c3 : ((s.extract 0 (min 2 (s.size : Int)).toNat).toList == [35, 59]) = false) (c4 : ((s.extract 0 (min 2 (s.size : Int)).toNat).toList == [35, 124]) = false) (d40 : ((s[0].toNat : Int) == 40) = false) (d41 : ((s[0].toNat : Int) == 41) = false) (d39 : ((s[0].toNat : Int) == 39) = false) (d96 : ((s[0].toNat : Int) == 96) = false) (d44 : ((s[0].toNat : Int) == 44) = false) (d59 : ((s[0].toNat : Int) == 59) = false) (d34 : ((s[0].toNat : Int) == 34) = false) :
    Calls Tryd.prog 56 #[.string s] w fun e w' => e = .returned (.tuple #[.int .i64 R.1, .int .i64 (R.2.1 : Nat), .int .i64 R.2.2]) ∧ Below w.heap.size w w' := by
  have HE : Hid (R = (1, Sc.atomLen s.data.toList, 0)) := HR.out.symm.trans (by unfold Sc.readTok; rw [← Sc.take2 s]; simp only [Sc.head0 s h1]; simp [c1, c2, c3, c4, d40, d41, d39, d96, d44, d59, d34])
  have HA := hide ha; clear ha
  go_enter Tryd.func56, Tryd.ntmps56
  go_wp2_with (go_at_call 76; refine (atomLength_any s _ hs HA.out).mono ?_; rintro e w' ⟨rfl, hB⟩)
  go_ret3
  exact ⟨by rw [HE.out]; rfl, hB⟩

theorem readToken_any (s : ByteArray) (w : World) (hs : s.size ≤ 4096) (h1 : 0 < s.size) (ha : Sc.Ascii s.data.toList) :
    Calls Tryd.prog 56 #[.string s] w fun e w' => e = .returned (.tuple #[.int .i64 (Sc.readTok s.data.toList).1, .int .i64 ((Sc.readTok s.data.toList).2.1 : Nat), .int .i64 (Sc.readTok s.data.toList).2.2]) ∧ Below w.heap.size w w' := by
  have HR : Hid (Sc.readTok s.data.toList = Sc.readTok s.data.toList) := rfl
  cases c1 : ((s.extract 0 (min 2 (s.size : Int)).toNat).toList == [35, 40]) with
  | true => exact readToken_c1 s w hs h1 ha _ HR c1
  | false =>
  cases c2 : ((s.extract 0 (min 2 (s.size : Int)).toNat).toList == [44, 64]) with
  | true => exact readToken_c2 s w hs h1 ha _ HR c1 c2
  | false =>
  cases c3 : ((s.extract 0 (min 2 (s.size : Int)).toNat).toList == [35, 59]) with
  | true => exact readToken_c3 s w hs h1 ha _ HR c1 c2 c3
  | false =>
  cases c4 : ((s.extract 0 (min 2 (s.size : Int)).toNat).toList == [35, 124]) with
  | true => exact readToken_c4 s w hs h1 ha _ HR c1 c2 c3 c4
  | false =>
  cases d40 : ((s[0].toNat : Int) == 40) with
  | true => exact readToken_d40 s w hs h1 ha _ HR c1 c2 c3 c4 d40
  | false =>
  cases d41 : ((s[0].toNat : Int) == 41) with
  | true => exact readToken_d41 s w hs h1 ha _ HR c1 c2 c3 c4 d40 d41
  | false =>
  cases d39 : ((s[0].toNat : Int) == 39) with
  | true => exact readToken_d39 s w hs h1 ha _ HR c1 c2 c3 c4 d40 d41 d39
  | false =>
  cases d96 : ((s[0].toNat : Int) == 96) with
  | true => exact readToken_d96 s w hs h1 ha _ HR c1 c2 c3 c4 d40 d41 d39 d96
  | false =>
  cases d44 : ((s[0].toNat : Int) == 44) with
  | true => exact readToken_d44 s w hs h1 ha _ HR c1 c2 c3 c4 d40 d41 d39 d96 d44
  | false =>
  cases d59 : ((s[0].toNat : Int) == 59) with
  | true => exact readToken_d59 s w hs h1 ha _ HR c1 c2 c3 c4 d40 d41 d39 d96 d44 d59
  | false =>
  cases d34 : ((s[0].toNat : Int) == 34) with
  | true => exact readToken_d34 s w hs h1 ha _ HR c1 c2 c3 c4 d40 d41 d39 d96 d44 d59 d34
  | false =>
  exact readToken_rest s w hs h1 ha _ HR c1 c2 c3 c4 d40 d41 d39 d96 d44 d59 d34
end Go.Proofs.YtoieklacpkahbaaDoor
