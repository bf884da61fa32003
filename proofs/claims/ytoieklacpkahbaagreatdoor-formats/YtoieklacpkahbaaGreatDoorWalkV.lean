/- Walks: the second reader's Scan; sameTokens. -/
import Derived.Test.YtoieklacpkahbaaGreatDoorWalkU
namespace Go.Proofs.YtoieklacpkahbaaGreatDoor
open Go.RowKit

set_option maxRecDepth 20000 in
set_option maxHeartbeats 2000000 in
theorem rscan_any (s : ByteArray) (w : World) (hs : s.size ≤ maxLen) (R : List Sc.Tok × Int × Int) (HR : Hid (Sc.scanRes s.data.toList = R)) :
    Calls Tryz.prog 24 #[.string s] w fun e w' => ∃ v, e = .returned (.tuple #[v, .int .i64 R.2.1, .int .i64 R.2.2]) ∧ Owns w' w.heap.size v R.1 ∧ Below w.heap.size w w' := by
  have hz := Sc.lsize s
  unfold maxLen at hs
  by_cases h4 : 4096 < s.size
  · have HX : Hid (R = ([], 1, 0)) := by
      rw [← HR.out]; unfold Sc.scanRes; rw [if_pos (by omega)]; exact hide rfl
    go_enter Tryz.func24, Tryz.ntmps24
    go_wp2
    go_ret3
    exact ⟨.slice none 0 0, by rw [HX.out]; rfl, by rw [HX.out]; exact Owns.nil _ _, Below.refl _ _⟩
  go_enter Tryz.func24, Tryz.ntmps24
  go_wp2
  go_loop [5] (fun i => ∃ k : Nat, k ≤ s.size ∧ i = .int .i64 k ∧ Hid (Sc.strangeAt s.data.toList = Sc.strangeI (s.data.toList.drop k) k)) (fun i => s.size - (intOf i).toNat)
  case atStart => exact ⟨0, by omega, rfl, rfl⟩
  case round =>
    obtain ⟨k, hk, rfl, HK⟩ := hrel
    by_cases hlt : k < s.size
    · have HHIT : Hid (Sc.strange s[k] = true → R = ([], 2, (k : Int))) := by
        intro hst
        have e := HK.out.trans (Sc.strangeI_hit _ _ (by omega) hst)
        rw [← HR.out]; unfold Sc.scanRes; rw [if_neg (by omega), if_pos (by rw [e]; omega), e]
      by_cases h9 : (s[k].toNat : Int) = 9
      · have hst := Sc.strange_no (c := s[k]) (.inl h9)
        have HS := hide hst; clear hst
        have b9 : ((s[k].toNat : Int) != 9) = false := by rw [h9]; rfl
        clear h9
        go_wp2
        go_round
        case rel => exact ⟨k + 1, by omega, by go_num, HK.out.trans (Sc.strangeI_on _ _ (by omega) (unhide HS))⟩
        case measure => simp [intOf]; omega
      have b9 : ((s[k].toNat : Int) != 9) = true := by simpa using h9
      by_cases h10 : (s[k].toNat : Int) = 10
      · have hst := Sc.strange_no (c := s[k]) (.inr (.inl h10))
        have HS := hide hst; clear hst
        have b10 : ((s[k].toNat : Int) != 10) = false := by rw [h10]; rfl
        clear h10
        go_wp2
        go_round
        case rel => exact ⟨k + 1, by omega, by go_num, HK.out.trans (Sc.strangeI_on _ _ (by omega) (unhide HS))⟩
        case measure => simp [intOf]; omega
      have b10 : ((s[k].toNat : Int) != 10) = true := by simpa using h10
      by_cases hlo : (s[k].toNat : Int) < 32
      · have HX := hide (HHIT.out (Sc.strange_yes (c := s[k]) h9 h10 (.inl hlo)))
        go_wp2
        go_ret3
        exact ⟨.slice none 0 0, by rw [HX.out]; rfl, by rw [HX.out]; exact Owns.nil _ _, Below.refl _ _⟩
      by_cases hhi : 126 < (s[k].toNat : Int)
      · have HX := hide (HHIT.out (Sc.strange_yes (c := s[k]) h9 h10 (.inr hhi)))
        go_wp2
        go_ret3
        exact ⟨.slice none 0 0, by rw [HX.out]; rfl, by rw [HX.out]; exact Owns.nil _ _, Below.refl _ _⟩
      · have hst := Sc.strange_no (c := s[k]) (.inr (.inr (by omega)))
        have HS := hide hst; clear hst
        go_wp2
        go_round
        case rel => exact ⟨k + 1, by omega, by go_num, HK.out.trans (Sc.strangeI_on _ _ (by omega) (unhide HS))⟩
        case measure => simp [intOf]; omega
    · have h5 : ¬ 0 ≤ Sc.strangeAt s.data.toList := by rw [HK.out, Sc.strangeI_end _ _ (by omega)]; decide
      have H5 := hide h5; clear h5
      obtain ⟨⟨ts, er, pl⟩, hT⟩ : ∃ T, Sc.toksRes s.data.toList = T := ⟨_, rfl⟩
      have HT := hide hT
      have HSH : Hid (∀ t ∈ ts, Sc.Shape t) := by have := Sc.toksRes_shape s.data.toList; rw [hT] at this; exact this
      clear hT
      have HRT := hide (fun W => rtokens_any s W (by omega) ts er pl HT)
      by_cases her : er = 0
      · subst her
        have hcov := Sc.toksRes_cov s.data.toList (by rw [HT.out])
        rw [HT.out] at hcov
        obtain ⟨_, hp2⟩ := hcov.pos
        simp only at hp2
        clear hcov
        obtain ⟨⟨ce, cp⟩, hC⟩ : ∃ C, Sc.listsRes ts = C := ⟨_, rfl⟩
        have HC := hide hC; clear hC
        by_cases hce : ce = 0
        · subst hce
          have HX : Hid (R = (ts, 0, 0)) := by
            rw [← HR.out]; unfold Sc.scanRes; rw [if_neg (by omega), if_neg H5.out, HT.out, if_neg (by simp), if_neg (by simp [HC.out])]; exact hide rfl
          go_wp2_with (first
            | (go_at_call 59; refine (HRT.out _).mono ?_; rintro e w2 ⟨v, rfl, hown, hb2⟩; obtain ⟨ao, cp0, rfl⟩ := hown.shape)
            | (go_at_call 60; refine (rlists_any ao cp0 ts _ _ hown (by omega) HSH.out 0 cp HC).mono ?_; rintro e w3 ⟨rfl, hb3⟩))
          go_ret3
          exact ⟨.slice ao ts.length cp0, by rw [HX.out]; rfl, by rw [HX.out]; exact hown.below hb3, hb2.trans (hb3.mono hb2.size)⟩
        · have hne : (ce != 0) = true := by simpa using hce
          have HX : Hid (R = ([], ce, cp)) := by
            rw [← HR.out]; unfold Sc.scanRes; rw [if_neg (by omega), if_neg H5.out, HT.out, if_neg (by simp), if_pos (by simpa [HC.out] using hce), HC.out]; exact hide rfl
          go_wp2_with (first
            | (go_at_call 59; refine (HRT.out _).mono ?_; rintro e w2 ⟨v, rfl, hown, hb2⟩; obtain ⟨ao, cp0, rfl⟩ := hown.shape)
            | (go_at_call 60; refine (rlists_any ao cp0 ts _ _ hown (by omega) HSH.out ce cp HC).mono ?_; rintro e w3 ⟨rfl, hb3⟩))
          go_ret3
          exact ⟨.slice none 0 0, by rw [HX.out]; rfl, by rw [HX.out]; exact Owns.nil _ _, hb2.trans (hb3.mono hb2.size)⟩
      · have hne : (er != 0) = true := by simpa using her
        have HX : Hid (R = ([], er, (pl : Int))) := by
          rw [← HR.out]; unfold Sc.scanRes; rw [if_neg (by omega), if_neg H5.out, HT.out, if_pos her]; exact hide rfl
        go_wp2_with (go_at_call 59; refine (HRT.out _).mono ?_; rintro e w2 ⟨v, rfl, hown, hb2⟩)
        go_ret3
        exact ⟨.slice none 0 0, by rw [HX.out]; rfl, by rw [HX.out]; exact Owns.nil _ _, hb2⟩

end Go.Proofs.YtoieklacpkahbaaGreatDoor
