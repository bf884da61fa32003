/- Walks: stringLength, blockLength, strangeByte. -/
import Derived.Test.YtigdfhcmhidhbaaDoorPlain
import Derived.Test.YtigdfhcmhidhbaaDoorRows
import Derived.WalkKit
import Derived.WalkSpells
import Derived.WalkLawsBesides
namespace Go.Proofs.YtigdfhcmhidhbaaDoor
open Go.RowKit

theorem ret_int {k : IntKind} {a b : Int} (h : a = b) : Ending.returned (.int k a) = .returned (.int k b) := by rw [h]

set_option maxHeartbeats 400000 in
theorem stringLength_any (s : ByteArray) (w : World) (hs : s.size ≤ 4096) :
    Calls Tryd.prog 75 #[.string s] w fun e w' => e = .returned (.int .i64 (Sc.strLen s.data.toList : Nat)) ∧ w' = w := by
  have hz := Sc.lsize s
  go_enter Tryd.func75, Tryd.ntmps75
  go_wp2
  go_loop [3] (fun i => ∃ k : Nat, k ≤ s.size + 1 ∧ i = .int .i64 k ∧ Hid (Sc.strLen s.data.toList = Sc.strGo (s.data.toList.drop k) k)) (fun i => s.size + 2 - (intOf i).toNat)
  case atStart => exact ⟨1, by omega, rfl, rfl⟩
  case round =>
    obtain ⟨k, hk, rfl, HK⟩ := hrel
    by_cases hlt : k < s.size
    · go_wp2
      · have h0 : ((s[k].toNat : Int) == 92) = true := by assumption
        have h1 : s[k] = 92 := Sc.u8t h0
        go_round
        case rel => exact ⟨k + 2, by omega, by go_num, HK.out.trans (Sc.strGo_esc _ _ (by omega) h1)⟩
        case measure => simp [intOf]; omega
      · have h0 : ((s[k].toNat : Int) == 34) = true := by assumption
        have h1 : s[k] = 34 := Sc.u8t h0
        go_ret
        exact ⟨ret_int (by rw [HK.out, Sc.strGo_hit _ _ (by omega) h1]; omega), rfl⟩
      · have h0 : ((s[k].toNat : Int) == 92) = false := by assumption
        have h1 : s[k] ≠ 92 := Sc.u8f h0
        have h0' : ((s[k].toNat : Int) == 34) = false := by assumption
        have h2 : s[k] ≠ 34 := Sc.u8f h0'
        go_round
        case rel => exact ⟨k + 1, by omega, by go_num, HK.out.trans (Sc.strGo_on _ _ (by omega) h1 h2)⟩
        case measure => simp [intOf]; omega
    · go_wp2
      go_ret
      exact ⟨ret_int (by rw [HK.out, Sc.strGo_end _ _ (by omega)]; rfl), rfl⟩

set_option maxHeartbeats 400000 in
theorem strangeByte_any (s : ByteArray) (w : World) (hs : s.size ≤ 4096) :
    Calls Tryd.prog 25 #[.string s] w fun e w' => e = .returned (.int .i64 (Sc.strangeAt s.data.toList)) ∧ w' = w := by
  have hz := Sc.lsize s
  go_enter Tryd.func25, Tryd.ntmps25
  go_wp2
  go_loop [7] (fun i => ∃ k : Nat, k ≤ s.size ∧ i = .int .i64 k ∧ Hid (Sc.strangeAt s.data.toList = Sc.strangeI (s.data.toList.drop k) k)) (fun i => s.size - (intOf i).toNat)
  case atStart => exact ⟨0, by omega, rfl, rfl⟩
  case round =>
    obtain ⟨k, hk, rfl, HK⟩ := hrel
    by_cases hlt : k < s.size
    · by_cases h9 : (s[k].toNat : Int) = 9
      · have hst := Sc.strange_no (c := s[k]) (.inl h9)
        have HS := hide hst; clear hst
        go_wp2
        go_round
        case rel => exact ⟨k + 1, by omega, by go_num, HK.out.trans (Sc.strangeI_on _ _ (by omega) (unhide HS))⟩
        case measure => simp [intOf]; omega
      by_cases h10 : (s[k].toNat : Int) = 10
      · have hst := Sc.strange_no (c := s[k]) (.inr (.inl h10))
        have HS := hide hst; clear hst
        go_wp2
        go_round
        case rel => exact ⟨k + 1, by omega, by go_num, HK.out.trans (Sc.strangeI_on _ _ (by omega) (unhide HS))⟩
        case measure => simp [intOf]; omega
      have b9 : ((s[k].toNat : Int) != 9) = true := by simpa using h9
      have b10 : ((s[k].toNat : Int) != 10) = true := by simpa using h10
      by_cases hlo : (s[k].toNat : Int) < 32
      · have hst := Sc.strange_yes (c := s[k]) h9 h10 (.inl hlo)
        have HS := hide hst; clear hst
        go_wp2
        go_ret
        exact ⟨ret_int (by rw [HK.out, Sc.strangeI_hit _ _ (by omega) (unhide HS)]), rfl⟩
      by_cases hhi : 126 < (s[k].toNat : Int)
      · have hst := Sc.strange_yes (c := s[k]) h9 h10 (.inr hhi)
        have HS := hide hst; clear hst
        go_wp2
        go_ret
        exact ⟨ret_int (by rw [HK.out, Sc.strangeI_hit _ _ (by omega) (unhide HS)]), rfl⟩
      · have hst := Sc.strange_no (c := s[k]) (.inr (.inr (by omega)))
        have HS := hide hst; clear hst
        go_wp2
        go_round
        case rel => exact ⟨k + 1, by omega, by go_num, HK.out.trans (Sc.strangeI_on _ _ (by omega) (unhide HS))⟩
        case measure => simp [intOf]; omega
    · go_wp2
      go_ret
      exact ⟨ret_int (by rw [HK.out, Sc.strangeI_end _ _ (by omega)]), rfl⟩

set_option maxHeartbeats 400000 in
theorem blockLength_any (s : ByteArray) (w : World) (hs : s.size ≤ 4096) :
    Calls Tryd.prog 73 #[.string s] w fun e w' => e = .returned (.int .i64 (Sc.blkLen s.data.toList : Nat)) ∧ w' = w := by
  have hz := Sc.lsize s
  go_enter Tryd.func73, Tryd.ntmps73
  go_wp2
  go_loop [3, 4] (fun o i => ∃ (k : Nat) (p : Int), k ≤ s.size ∧ -k ≤ p ∧ p ≤ k ∧ i = .int .i64 k ∧ o = .int .i64 p ∧ Hid (Sc.blkLen s.data.toList = Sc.blkGo (s.data.toList.drop k) k p)) (fun _ i => s.size - (intOf i).toNat)
  case atStart => exact ⟨0, 0, by omega, by omega, by omega, rfl, rfl, rfl⟩
  case round =>
    obtain ⟨k, p, hk, hp1, hp2, rfl, rfl, HK⟩ := hrel
    by_cases hlt : k + 2 ≤ s.size
    · go_wp2
      · go_ret
        exact ⟨ret_int (by rw [HK.out, Sc.blk1 hlt ‹_› ‹_›]; omega), rfl⟩
      · go_round
        case rel => exact ⟨k + 2, p + 1, by omega, by omega, by omega, by go_num, rfl, HK.out.trans (Sc.blk2 hlt ‹_› ‹_›)⟩
        case measure => simp [intOf]; omega
      · go_ret
        exact ⟨ret_int (by rw [HK.out, Sc.blk3 hlt ‹_› ‹_› ‹_›]; omega), rfl⟩
      · go_round
        case rel => exact ⟨k + 2, p - 1, by omega, by omega, by omega, by go_num, rfl, HK.out.trans (Sc.blk4 hlt ‹_› ‹_› ‹_›)⟩
        case measure => simp [intOf]; omega
      · go_ret
        exact ⟨ret_int (by rw [HK.out, Sc.blk5 hlt ‹_› ‹_› ‹_›]; omega), rfl⟩
      · go_round
        case rel => exact ⟨k + 1, p, by omega, by omega, by omega, by go_num, rfl, HK.out.trans (Sc.blk6 hlt ‹_› ‹_› ‹_›)⟩
        case measure => simp [intOf]; omega
    · go_wp2
      go_ret
      exact ⟨ret_int (by rw [HK.out, Sc.blkGo_end _ _ _ (by omega)]; rfl), rfl⟩
end Go.Proofs.YtigdfhcmhidhbaaDoor
