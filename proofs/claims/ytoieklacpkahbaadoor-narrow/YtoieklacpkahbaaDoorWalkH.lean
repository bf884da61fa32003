/- Walks: Scan; blank, blanks. -/
import Derived.Test.YtoieklacpkahbaaDoorWalkE
import Derived.Test.YtoieklacpkahbaaDoorWalkG
import Derived.Test.YtoieklacpkahbaaDoorPlainE
namespace Go.Proofs.YtoieklacpkahbaaDoor
open Go.RowKit

set_option maxRecDepth 20000 in
set_option maxHeartbeats 400000 in
theorem scan_any (s : ByteArray) (w : World) (hs : s.size ≤ maxLen) (m : Int) (hm : w.cell? ⟨0, 0, none⟩ = some (.int .i64 m)) (R : List Sc.Tok × Int × Int) (HR : Hid (Sc.scanRes s.data.toList = R)) :
    Calls Tryd.prog 11 #[.string s] w fun e w' => ∃ v, e = .returned (.tuple #[v, .int .i64 R.2.1, .int .i64 R.2.2]) ∧
      Owns w' w.heap.size v R.1 ∧ Below w.heap.size w w' ∧ (R.2.1 ≠ 0 → v = .slice none 0 0) := by
  have hz := Sc.lsize s
  unfold maxLen at hs
  by_cases h4 : 4096 < s.size
  · have HX : Hid (R = ([], 1, 0)) := by
      rw [← HR.out]; unfold Sc.scanRes; rw [if_pos (by omega)]; exact hide rfl
    go_enter Tryd.func11, Tryd.ntmps11
    go_wp2
    go_ret3
    exact ⟨.slice none 0 0, by rw [HX.out]; rfl, by rw [HX.out]; exact Owns.nil _ _, Below.refl _ _, fun _ => rfl⟩
  have hst := Sc.strangeAt_le s.data.toList
  by_cases h5 : 0 ≤ Sc.strangeAt s.data.toList
  · have HX : Hid (R = ([], 2, Sc.strangeAt s.data.toList)) := by
      rw [← HR.out]; unfold Sc.scanRes; rw [if_neg (by omega), if_pos h5]; exact hide rfl
    go_enter Tryd.func11, Tryd.ntmps11
    go_wp2_with (go_at_call 25; refine (strangeByte_any s _ (by omega)).mono ?_; rintro e w1 ⟨rfl, hw1⟩; subst w1)
    go_ret3
    exact ⟨.slice none 0 0, by rw [HX.out]; rfl, by rw [HX.out]; exact Owns.nil _ _, Below.refl _ _, fun _ => rfl⟩
  have HA := hide (Sc.ascii_of_strange s.data.toList (by omega))
  obtain ⟨⟨ts, er, pl⟩, hT⟩ : ∃ T, Sc.toksRes s.data.toList = T := ⟨_, rfl⟩
  have HT := hide hT
  have hrt : ∀ W, W.cell? ⟨0, 0, none⟩ = some (.int .i64 m) → Calls Tryd.prog 26 #[.string s] W fun e w' => ∃ v, e = .returned (.tuple #[v, .int .i64 er, .int .i64 (pl : Nat)]) ∧ Owns w' W.heap.size v ts ∧ Below W.heap.size W w' := by
    intro W hW
    have := readTokens_any s W (by omega) HA.out m hW
    rw [hT] at this; exact this
  have HRT := hide hrt
  clear hT hrt
  by_cases her : er = 0
  · subst her
    have hcov := Sc.toksRes_cov s.data.toList (by rw [HT.out])
    rw [HT.out] at hcov
    obtain ⟨hp1, hp2⟩ := hcov.pos
    have HP := hide hp1
    simp only at hp2
    clear hp1 hcov
    obtain ⟨⟨ce, cp⟩, hC⟩ : ∃ C, Sc.listsRes ts = C := ⟨_, rfl⟩
    have HC := hide hC; clear hC
    by_cases hce : ce = 0
    · subst hce
      have HX : Hid (R = (ts, 0, 0)) := by
        rw [← HR.out]; unfold Sc.scanRes; rw [if_neg (by omega), if_neg h5, HT.out, if_neg (by simp), if_neg (by simp [HC.out])]; exact hide rfl
      go_enter Tryd.func11, Tryd.ntmps11
      go_wp2_with (first
        | (go_at_call 25; refine (strangeByte_any s _ (by omega)).mono ?_; rintro e w1 ⟨rfl, hw1⟩; subst w1)
        | (go_at_call 26; refine (HRT.out _ hm).mono ?_; rintro e w2 ⟨v, rfl, hown, hb2⟩; obtain ⟨ao, cp0, rfl⟩ := hown.shape)
        | (go_at_call 27; refine (checkLists_any ao cp0 ts _ _ hown (by omega) HP.out).mono ?_; rw [HC.out]; rintro e w3 ⟨rfl, hb3⟩))
      go_ret3
      exact ⟨.slice ao ts.length cp0, by rw [HX.out]; rfl, by rw [HX.out]; exact hown.below hb3, hb2.trans (hb3.mono hb2.size), by rw [HX.out]; intro h; exact absurd rfl h⟩
    · have hne : (ce != 0) = true := by simpa using hce
      have HX : Hid (R = ([], ce, cp)) := by
        rw [← HR.out]; unfold Sc.scanRes; rw [if_neg (by omega), if_neg h5, HT.out, if_neg (by simp), if_pos (by simpa [HC.out] using hce), HC.out]; exact hide rfl
      go_enter Tryd.func11, Tryd.ntmps11
      go_wp2_with (first
        | (go_at_call 25; refine (strangeByte_any s _ (by omega)).mono ?_; rintro e w1 ⟨rfl, hw1⟩; subst w1)
        | (go_at_call 26; refine (HRT.out _ hm).mono ?_; rintro e w2 ⟨v, rfl, hown, hb2⟩; obtain ⟨ao, cp0, rfl⟩ := hown.shape)
        | (go_at_call 27; refine (checkLists_any ao cp0 ts _ _ hown (by omega) HP.out).mono ?_; rw [HC.out]; rintro e w3 ⟨rfl, hb3⟩))
      go_ret3
      exact ⟨.slice none 0 0, by rw [HX.out]; rfl, by rw [HX.out]; exact Owns.nil _ _, hb2.trans (hb3.mono hb2.size), fun _ => rfl⟩
  · have hne : (er != 0) = true := by simpa using her
    have HX : Hid (R = ([], er, (pl : Int))) := by
      rw [← HR.out]; unfold Sc.scanRes; rw [if_neg (by omega), if_neg h5, HT.out, if_pos her]; exact hide rfl
    go_enter Tryd.func11, Tryd.ntmps11
    go_wp2_with (first
      | (go_at_call 25; refine (strangeByte_any s _ (by omega)).mono ?_; rintro e w1 ⟨rfl, hw1⟩; subst w1)
      | (go_at_call 26; refine (HRT.out _ hm).mono ?_; rintro e w2 ⟨v, rfl, hown, hb2⟩))
    go_ret3
    exact ⟨.slice none 0 0, by rw [HX.out]; rfl, by rw [HX.out]; exact Owns.nil _ _, hb2, fun _ => rfl⟩

theorem bl3_int (c : UInt8) : Sc.bl3 c = (((c.toNat : Int) == 32) || ((c.toNat : Int) == 9) || ((c.toNat : Int) == 10)) := by
  have key : ∀ d : UInt8, (c == d) = ((c.toNat : Int) == (d.toNat : Int)) := by
    intro d
    by_cases h : c = d
    · subst h; simp
    · have h1 : ¬ ((c.toNat : Int) = (d.toNat : Int)) := fun e => h (UInt8.toNat_inj.1 (by omega))
      rw [beq_eq_false_iff_ne.2 h, beq_eq_false_iff_ne.2 h1]
  unfold Sc.bl3
  rw [key 32, key 9, key 10]; rfl

set_option maxHeartbeats 400000 in
theorem blank_any (c : UInt8) (w : World) :
    Calls Tryd.prog 29 #[.int .u8 (c.toNat : Int)] w fun e w' => e = .returned (.bool (Sc.bl3 c)) ∧ w' = w := by
  have HB := hide (bl3_int c)
  generalize (c.toNat : Int) = x at HB ⊢
  cases h1 : (x == 32) with
  | true =>
    rw [h1] at HB
    go_enter Tryd.func29, Tryd.ntmps29
    go_wp2
    go_ret
    exact ⟨ret_bool HB.out.symm, rfl⟩
  | false =>
  cases h2 : (x == 9) with
  | true =>
    rw [h1, h2] at HB
    go_enter Tryd.func29, Tryd.ntmps29
    go_wp2
    go_ret
    exact ⟨ret_bool HB.out.symm, rfl⟩
  | false =>
    rw [h1, h2] at HB
    go_enter Tryd.func29, Tryd.ntmps29
    go_wp2
    go_ret
    exact ⟨ret_bool HB.out.symm, rfl⟩

/-- blanks. -/
def allBl (l : List UInt8) : Bool := l.all Sc.bl3
theorem allBl_step (l : List UInt8) (k : Nat) (h : k < l.length) : allBl (l.drop k) = (Sc.bl3 l[k] && allBl (l.drop (k + 1))) := by
  unfold allBl; rw [List.drop_eq_getElem_cons h, List.all_cons]

set_option maxHeartbeats 400000 in
theorem blanks_any (s : ByteArray) (w : World) (hs : s.size ≤ 4096) :
    Calls Tryd.prog 16 #[.string s] w fun e w' => e = .returned (.bool (allBl s.data.toList)) ∧ w' = w := by
  have hz := Sc.lsize s
  generalize hX : allBl s.data.toList = X
  have HX := hide hX; clear hX
  go_enter Tryd.func16, Tryd.ntmps16
  go_wp2
  go_loop [3] (fun i => ∃ k : Nat, k ≤ s.size ∧ i = .int .i64 k ∧ Hid (X = allBl (s.data.toList.drop k))) (fun i => s.size - (intOf i).toNat)
  case atStart => exact ⟨0, by omega, rfl, HX.out.symm⟩
  case round =>
    obtain ⟨k, hk, rfl, HK⟩ := hrel
    by_cases hlt : k < s.size
    · have HS := hide (allBl_step s.data.toList k (by omega))
      have HS2 : Hid (X = (Sc.bl3 s[k] && allBl (s.data.toList.drop (k + 1)))) := HK.out.trans HS.out
      clear HS HK
      cases hb : Sc.bl3 s[k] with
      | true =>
        rw [hb] at HS2
        have hbc : ∀ W, Calls Tryd.prog 29 #[.int .u8 (s[k].toNat : Int)] W fun e w' => e = .returned (.bool true) ∧ w' = W := fun W => hb ▸ blank_any s[k] W
        have HBC := hide hbc
        clear hbc hb
        go_wp2_with (go_at_call 29; refine (HBC.out _).mono ?_; rintro e w1 ⟨rfl, hw1⟩; subst w1)
        go_round
        case rel => exact ⟨k + 1, by omega, by go_num, HS2⟩
        case measure => simp [intOf]; omega
      | false =>
        rw [hb] at HS2
        have hbc : ∀ W, Calls Tryd.prog 29 #[.int .u8 (s[k].toNat : Int)] W fun e w' => e = .returned (.bool false) ∧ w' = W := fun W => hb ▸ blank_any s[k] W
        have HBC := hide hbc
        clear hbc hb
        go_wp2_with (go_at_call 29; refine (HBC.out _).mono ?_; rintro e w1 ⟨rfl, hw1⟩; subst w1)
        go_ret
        exact ⟨ret_bool HS2.out.symm, rfl⟩
    · have HE : Hid (X = true) := by rw [HK.out, List.drop_eq_nil_of_le (by omega)]; exact hide rfl
      go_wp2
      go_ret
      exact ⟨ret_bool HE.out.symm, rfl⟩
end Go.Proofs.YtoieklacpkahbaaDoor
