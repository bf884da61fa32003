/- Walks: the library's functions as the program calls them; skipBlanks, atomLength, endedAtom, Clone. -/
import Derived.Test.YtigdfhcmhidhbaaDoorWalkA
import Derived.Test.YtigdfhcmhidhbaaDoorShelf
namespace Go.Proofs.YtigdfhcmhidhbaaDoor
open Go.RowKit

theorem ix_any (c : UInt8) (w : World) :
    Calls Tryd.prog 71 #[.string ⟨#[32, 9]⟩, .int .u8 (c.toNat : Int)] w fun e w' => e = .returned (.int .i64 (Sc.blIx c)) ∧ w' = w := by
  have h := Any.strings_IndexByte Tryd.lays137 ⟨#[32, 9]⟩ (c.toNat : Int) w
  have e : ((c.toNat : Int)).toNat.toUInt8 = c := by simp
  rw [e] at h
  exact h

theorem clone_any (s : ByteArray) (w : World) (hs : s.size ≤ 4096) :
    Calls Tryd.prog 57 #[.string s] w fun e w' => e = .returned (.string s) ∧ Below w.heap.size w w' := by
  have h : Calls Tryd.prog 77 #[.string s] w fun e w' => e = .returned (.string s) ∧ Below w.heap.size w w' := Any.stringslite_Clone Tryd.laysM316 s w (by omega)
  go_enter Tryd.func57, Tryd.ntmps57
  go_wp2_with (go_at_call 77; refine h.mono ?_; rintro e w' ⟨rfl, hB⟩)
  go_ret
  exact ⟨rfl, hB⟩

theorem trimRight_any (s : ByteArray) (w : World) (hs : s.size ≤ 4096) :
    Calls Tryd.prog 74 #[.string s, .string ⟨#[32, 9]⟩] w fun e w' => e = .returned (.string ⟨(Lib.trimRightS s.data.toList [32, 9]).toArray⟩) ∧ Below w.heap.size w w' :=
  Any.strings_TrimRight_laid Tryd.lays162 (by kernel_rfl) s ⟨#[32, 9]⟩ w (by omega) (by decide) (ascii_of_all (by decide))

theorem indexAny_any (s : ByteArray) (w : World) (hs : s.size ≤ 4096) (ha : Sc.Ascii s.data.toList) :
    Calls Tryd.prog 95 #[.string s, .string ⟨#[32, 9, 40, 41, 39, 44, 34, 59, 96]⟩] w fun e w' => e = .returned (.int .i64 (Sc.atomIx s.data.toList)) ∧ Below w.heap.size w w' :=
  Any.strings_IndexAny_laid Tryd.lays153 (by kernel_rfl) s ⟨#[32, 9, 40, 41, 39, 44, 34, 59, 96]⟩ w (by omega) (by decide) ha (ascii_of_all (by decide))

set_option maxHeartbeats 400000 in
theorem skip_any (s : ByteArray) (a : Int) (w : World) (hs : s.size ≤ 4096) (h0 : 0 ≤ a) (h1 : a ≤ s.size) :
    Calls Tryd.prog 55 #[.string s, .int .i64 a] w fun e w' => e = .returned (.int .i64 (Sc.skipB s.data.toList a.toNat : Nat)) ∧ w' = w := by
  have hz := Sc.lsize s
  obtain ⟨n, rfl⟩ := Int.eq_ofNat_of_zero_le h0
  rw [Int.toNat_natCast]
  go_enter Tryd.func55, Tryd.ntmps55
  go_wp2
  go_loop [1] (fun i => ∃ k : Nat, k ≤ s.size ∧ i = .int .i64 k ∧ Hid (Sc.skipB s.data.toList n = Sc.skipB s.data.toList k)) (fun i => s.size - (intOf i).toNat)
  case atStart => exact ⟨n, by omega, rfl, rfl⟩
  case round =>
    obtain ⟨k, hk, rfl, HK⟩ := hrel
    by_cases hlt : k < s.size
    · cases hb : Sc.isBl s[k] with
      | true =>
        have hi := Sc.blIx_yes hb
        have HS := hide (HK.out.trans (Sc.skipB_hit _ k (by omega) hb)); clear hb HK
        go_wp2_with (go_at_call 71; refine (ix_any s[k] _).mono ?_; rintro e w' ⟨rfl, rfl⟩)
        go_round
        case rel => exact ⟨k + 1, by omega, by go_num, HS⟩
        case measure => simp [intOf]; omega
      | false =>
        have hi := Sc.blIx_no hb
        have HS := hide (HK.out.trans (Sc.skipB_miss _ k (by omega) hb)); clear hb HK
        go_wp2_with (go_at_call 71; refine (ix_any s[k] _).mono ?_; rintro e w' ⟨rfl, rfl⟩)
        go_ret
        exact ⟨ret_int (by rw [HS.out]), rfl⟩
    · go_wp2
      go_ret
      exact ⟨ret_int (by rw [HK.out, Sc.skipB_end _ _ (by omega)]), rfl⟩

set_option maxHeartbeats 400000 in
theorem atomLength_any (s : ByteArray) (w : World) (hs : s.size ≤ 4096) (ha : Sc.Ascii s.data.toList) :
    Calls Tryd.prog 76 #[.string s] w fun e w' => e = .returned (.int .i64 (Sc.atomLen s.data.toList : Nat)) ∧ Below w.heap.size w w' := by
  have hz := Sc.lsize s
  have HA := hide ha; clear ha
  by_cases h : 0 ≤ Sc.atomIx s.data.toList
  · have e1 : ((Sc.atomLen s.data.toList : Nat) : Int) = Sc.atomIx s.data.toList := (Sc.atomIx_len _).1 h
    have H1 := hide e1; clear e1
    go_enter Tryd.func76, Tryd.ntmps76
    go_wp2_with (go_at_call 95; refine (indexAny_any s _ hs HA.out).mono ?_; rintro e w' ⟨rfl, hB⟩)
    go_ret
    exact ⟨ret_int H1.out.symm, hB⟩
  · have e1 : ((Sc.atomLen s.data.toList : Nat) : Int) = s.size := by have := (Sc.atomIx_len s.data.toList).2 (by omega); omega
    have H1 := hide e1; clear e1
    go_enter Tryd.func76, Tryd.ntmps76
    go_wp2_with (go_at_call 95; refine (indexAny_any s _ hs HA.out).mono ?_; rintro e w' ⟨rfl, hB⟩)
    go_ret
    exact ⟨ret_int H1.out.symm, hB⟩

theorem endedAtom_any (n : Nat) (m : Int) (w : World) :
    Calls Tryd.prog 72 #[.int .i64 n, .int .i64 m] w fun e w' =>
      e = .returned (.tuple #[.int .i64 (Sc.enK n), .int .i64 n, .int .i64 (Sc.enE n m)]) ∧ w' = w := by
  unfold Sc.enK Sc.enE
  by_cases h : n = 0
  · subst h
    go_enter Tryd.func72, Tryd.ntmps72
    go_wp2
    go_ret3
    exact ⟨rfl, rfl⟩
  · have hb : ((n : Int) == 0) = false := by simpa using h
    rw [if_neg h, if_neg h]
    go_enter Tryd.func72, Tryd.ntmps72
    go_wp2
    go_ret3
    exact ⟨rfl, rfl⟩
end Go.Proofs.YtigdfhcmhidhbaaDoor
