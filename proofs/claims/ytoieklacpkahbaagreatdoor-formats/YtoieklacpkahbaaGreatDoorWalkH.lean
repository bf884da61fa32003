/- Walks: Scan; blank, blanks. -/
import Derived.Test.YtoieklacpkahbaaGreatDoorWalkE
import Derived.Test.YtoieklacpkahbaaGreatDoorWalkG
import Derived.Test.YtoieklacpkahbaaGreatDoorPlainE
namespace Go.Proofs.YtoieklacpkahbaaGreatDoor
open Go.RowKit

set_option maxRecDepth 20000 in
set_option maxHeartbeats 400000 in
theorem scan_any (s : ByteArray) (w : World) (hs : s.size ≤ maxLen) (m : Int) (hm : w.cell? ⟨0, 0, none⟩ = some (.int .i64 m)) (R : List Sc.Tok × Int × Int) (HR : Hid (Sc.scanRes s.data.toList = R)) :
    Calls Tryz.prog 19 #[.string s] w fun e w' => ∃ v, e = .returned (.tuple #[v, .int .i64 R.2.1, .int .i64 R.2.2]) ∧
      Owns w' w.heap.size v R.1 ∧ Below w.heap.size w w' ∧ (R.2.1 ≠ 0 → v = .slice none 0 0) := by
  have hz := Sc.lsize s
  unfold maxLen at hs
  by_cases h4 : 4096 < s.size
  · have HX : Hid (R = ([], 1, 0)) := by
      rw [← HR.out]; unfold Sc.scanRes; rw [if_pos (by omega)]; exact hide rfl
    go_enter Tryz.func19, Tryz.ntmps19
    go_wp2
    go_ret3
    exact ⟨.slice none 0 0, by rw [HX.out]; rfl, by rw [HX.out]; exact Owns.nil _ _, Below.refl _ _, fun _ => rfl⟩
  have hst := Sc.strangeAt_le s.data.toList
  by_cases h5 : 0 ≤ Sc.strangeAt s.data.toList
  · have HX : Hid (R = ([], 2, Sc.strangeAt s.data.toList)) := by
      rw [← HR.out]; unfold Sc.scanRes; rw [if_neg (by omega), if_pos h5]; exact hide rfl
    go_enter Tryz.func19, Tryz.ntmps19
    go_wp2_with (go_at_call 50; refine (strangeByte_any s _ (by omega)).mono ?_; rintro e w1 ⟨rfl, hw1⟩; subst w1)
    go_ret3
    exact ⟨.slice none 0 0, by rw [HX.out]; rfl, by rw [HX.out]; exact Owns.nil _ _, Below.refl _ _, fun _ => rfl⟩
  have HA := hide (Sc.ascii_of_strange s.data.toList (by omega))
  obtain ⟨⟨ts, er, pl⟩, hT⟩ : ∃ T, Sc.toksRes s.data.toList = T := ⟨_, rfl⟩
  have HT := hide hT
  have hrt : ∀ W, W.cell? ⟨0, 0, none⟩ = some (.int .i64 m) → Calls Tryz.prog 51 #[.string s] W fun e w' => ∃ v, e = .returned (.tuple #[v, .int .i64 er, .int .i64 (pl : Nat)]) ∧ Owns w' W.heap.size v ts ∧ Below W.heap.size W w' := by
    intro W hW
    have := readTokens_any s W (by omega) HA.out m hW
    rw [hT] at this; exact this
  have HRT := hide hrt
  clear hT hrt
  by_cases her : er = 0
  · subst her
    have hcov := Sc.toksRes_cov s.data.toList (by rw [HT.out])
    rw [HT.out] at hcov
    obtain ⟨hp1, hp2⟩ := hcov.pos
    have HP := hide hp1
    simp only at hp2
    clear hp1 hcov
    obtain ⟨⟨ce, cp⟩, hC⟩ : ∃ C, Sc.listsRes ts = C := ⟨_, rfl⟩
    have HC := hide hC; clear hC
    by_cases hce : ce = 0
    · subst hce
      have HX : Hid (R = (ts, 0, 0)) := by
        rw [← HR.out]; unfold Sc.scanRes; rw [if_neg (by omega), if_neg h5, HT.out, if_neg (by simp), if_neg (by simp [HC.out])]; exact hide rfl
      go_enter Tryz.func19, Tryz.ntmps19
      go_wp2_with (first
        | (go_at_call 50; refine (strangeByte_any s _ (by omega)).mono ?_; rintro e w1 ⟨rfl, hw1⟩; subst w1)
        | (go_at_call 51; refine (HRT.out _ hm).mono ?_; rintro e w2 ⟨v, rfl, hown, hb2⟩; obtain ⟨ao, cp0, rfl⟩ := hown.shape)
        | (go_at_call 52; refine (checkLists_any ao cp0 ts _ _ hown (by omega) HP.out).mono ?_; rw [HC.out]; rintro e w3 ⟨rfl, hb3⟩))
      go_ret3
      exact ⟨.slice ao ts.length cp0, by rw [HX.out]; rfl, by rw [HX.out]; exact hown.below hb3, hb2.trans (hb3.mono hb2.size), by rw [HX.out]; intro h; exact absurd rfl h⟩
    · have hne : (ce != 0) = true := by simpa using hce
      have HX : Hid (R = ([], ce, cp)) := by
        rw [← HR.out]; unfold Sc.scanRes; rw [if_neg (by omega), if_neg h5, HT.out, if_neg (by simp), if_pos (by simpa [HC.out] using hce), HC.out]; exact hide rfl
      go_enter Tryz.func19, Tryz.ntmps19
      go_wp2_with (first
        | (go_at_call 50; refine (strangeByte_any s _ (by omega)).mono ?_; rintro e w1 ⟨rfl, hw1⟩; subst w1)
        | (go_at_call 51; refine (HRT.out _ hm).mono ?_; rintro e w2 ⟨v, rfl, hown, hb2⟩; obtain ⟨ao, cp0, rfl⟩ := hown.shape)
        | (go_at_call 52; refine (checkLists_any ao cp0 ts _ _ hown (by omega) HP.out).mono ?_; rw [HC.out]; rintro e w3 ⟨rfl, hb3⟩))
      go_ret3
      exact ⟨.slice none 0 0, by rw [HX.out]; rfl, by rw [HX.out]; exact Owns.nil _ _, hb2.trans (hb3.mono hb2.size), fun _ => rfl⟩
  · have hne : (er != 0) = true := by simpa using her
    have HX : Hid (R = ([], er, (pl : Int))) := by
      rw [← HR.out]; unfold Sc.scanRes; rw [if_neg (by omega), if_neg h5, HT.out, if_pos her]; exact hide rfl
    go_enter Tryz.func19, Tryz.ntmps19
    go_wp2_with (first
      | (go_at_call 50; refine (strangeByte_any s _ (by omega)).mono ?_; rintro e w1 ⟨rfl, hw1⟩; subst w1)
      | (go_at_call 51; refine (HRT.out _ hm).mono ?_; rintro e w2 ⟨v, rfl, hown, hb2⟩))
    go_ret3
    exact ⟨.slice none 0 0, by rw [HX.out]; rfl, by rw [HX.out]; exact Owns.nil _ _, hb2, fun _ => rfl⟩

theorem bl3_int (c : UInt8) : Sc.bl3 c = (((c.toNat : Int) == 32) || ((c.toNat : Int) == 9) || ((c.toNat : Int) == 10)) := by
  have key : ∀ d : UInt8, (c == d) = ((c.toNat : Int) == (d.toNat : Int)) := by
    intro d
    by_cases h : c = d
    · subst h; simp
    · have h1 : ¬ ((c.toNat : Int) = (d.toNat : Int)) := fun e => h (UInt8.toNat_inj.1 (by omega))
      rw [beq_eq_false_iff_ne.2 h, beq_eq_false_iff_ne.2 h1]
  unfold Sc.bl3
  rw [key 32, key 9, key 10]; rfl

end Go.Proofs.YtoieklacpkahbaaGreatDoor
