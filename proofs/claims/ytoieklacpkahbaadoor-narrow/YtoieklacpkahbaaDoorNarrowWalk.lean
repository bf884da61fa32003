/- The walk of Narrow. -/
import Derived.Test.YtoieklacpkahbaaDoorNarrowA
namespace Go.Proofs.YtoieklacpkahbaaDoor
open Go.RowKit
/-- How far it is back til the line's beginning. -/
theorem col_step {F : List UInt8} {x : Nat} (hx : x < F.length) : Sc.colB 0 (F.take (x + 1)) = if F[x] = 10 then 0 else Sc.colB 0 (F.take x) + 1 := by
  rw [List.take_succ_eq_append_getElem hx, Sc.colB_snoc]
theorem tw_step {F : List UInt8} {y : Nat} (hy : y < F.length) : ((F.drop y).takeWhile Sc.inLn).length = if F[y] = 10 then 0 else ((F.drop (y + 1)).takeWhile Sc.inLn).length + 1 := by
  rw [List.drop_eq_getElem_cons hy, List.takeWhile_cons]
  by_cases h : F[y] = 10
  · rw [if_pos h, if_neg (by simp [Sc.inLn, h])]; rfl
  · rw [if_neg h, if_pos (by simp [Sc.inLn, h])]; rfl
theorem byte_at {F : List UInt8} {FB : ByteArray} (h : FB.data.toList = F) {x : Nat} (hx : x < FB.size) : ∃ h' : x < F.length, FB[x] = F[x] := by
  subst h
  exact ⟨by simpa using hx, by simp [ByteArray.getElem_eq_getElem_data]⟩
theorem byte_ne {c : UInt8} : (((c.toNat : Int)) == 10) = decide (c = 10) := by
  by_cases h : c = 10
  · subst h; rfl
  · rw [decide_eq_false h]
    refine beq_eq_false_iff_ne.2 fun e => h ?_
    apply UInt8.toNat_inj.1
    have : (10 : UInt8).toNat = 10 := rfl
    omega
/-- What is asked of each list, at the loop. -/
structure NarOk (us : List Sc.Tok) (F : List UInt8) (W : Nat) : Prop where
  at_ : ∀ i (hi : i < us.length), us[i].kind = 2 → ∃ (T : List Sc.Tok) (n frm til : Nat) (_ : i + T.length - 1 < us.length), Sc.LstAt us i T ∧ Sc.Els T n ∧ us[i].place = frm ∧ us[i + T.length - 1].place = til ∧ frm ≤ F.length ∧ til ≤ F.length ∧ (3 ≤ n → Sc.LineAt F frm til W)

set_option maxRecDepth 20000 in
set_option maxHeartbeats 8000000 in
theorem narrow_loop (s : ByteArray) (n : Int) (h1 : -9223372036854775808 ≤ n) (h2 : n ≤ 9223372036854775807) (w : World) (hs : s.size ≤ maxLen) (m : Int) (hm : w.cell? ⟨0, 0, none⟩ = some (.int .i64 m)) (hml : 0 < w.heap.size)
    (ts : List Sc.Tok) (hsc : Sc.scanRes s.data.toList = (ts, 0, 0)) (F : List UInt8) (us : List Sc.Tok) (hF : Sc.fmtT (Sc.wOf n).toNat ts = F) (hus : Sc.scanRes F = (us, 0, 0)) (hlong : F.length ≤ 4096) (hna : NarOk us F (Sc.wOf n).toNat) :
    Calls Tryd.prog 9 #[.string s, .int .i64 n] w fun e w' => e = .returned (.bool true) ∧ Below w.heap.size w w' := by
  have HAB := hide (able_any w m hm hml)
  have HW := hide (fun w' => widthOf_any n h1 h2 w')
  have HF := hide (fun w' (hb : Below w.heap.size w w') => format_any s (Sc.wOf n) w' hs m ((hb.cell hml).trans hm) _ (hide (fmtD_ok hsc n)))
  unfold fmtV at HF
  rw [hF] at HF
  simp only at HF
  have hzf := wbsize F
  have HS2 := hide (fun w' (hb : Below w.heap.size w w') => scan_any ⟨F.toArray⟩ w' (by rw [hzf]; unfold maxLen; omega) m ((hb.cell hml).trans hm) _ (hide (show Sc.scanRes (⟨F.toArray⟩ : ByteArray).data.toList = (us, 0, 0) by simpa using hus)))
  have HDL : Hid ((⟨F.toArray⟩ : ByteArray).data.toList = F) := hide (by simp)
  have HNA := hide hna
  have hwr := Sc.wOf_in n
  have hul : us.length ≤ 4096 := (Sc.scan_toks hus).2.1
  have HEL := hide (fun ao ac A w' ha i nn T hL hE => lawElements_any ao ac us A w' ha (by omega) i nn T hL hE)
  generalize (⟨F.toArray⟩ : ByteArray) = FB at *
  have hfs : FB.size ≤ 4096 := by omega
  have hlong' : ¬ (4096 : Int) < FB.size := by omega
  have HZF := hide hzf
  clear hzf hF hsc hus hna hlong
  generalize Sc.wOf n = wn at *
  go_enter Tryd.func9, Tryd.ntmps9
  go_wp2_with (first
    | (go_at_call 17; refine HAB.out.mono ?_; rintro e w1 ⟨rfl, hb1⟩)
    | (go_at_call 19; refine (HW.out _).mono ?_; rintro e w3 ⟨rfl, hw3⟩; subst w3)
    | (go_at_call 18; refine (HF.out _ hb1).mono ?_; rintro e w4 ⟨rfl, hb4⟩; have HB4 := hide (hb1.trans (hb4.mono hb1.size)); clear hb4)
    | (go_at_call 11; refine (HS2.out _ HB4.out).mono ?_; rintro e w5 ⟨v, rfl, ho, hb5, -⟩; obtain ⟨va, vc, rfl⟩ := ho.shape; have HB5 := hide (HB4.out.trans (hb5.mono HB4.out.size)); have HO := hide ho; clear ho hb5))
  go_loopw [13] (fun i wr => ∃ (k q : Nat), k ≤ us.length ∧ i = .int .i64 k ∧ Hid (wr = w5.drewN q)) (fun i _ => us.length - (intOf i).toNat)
  case atStart => exact ⟨0, 0, by omega, rfl, rfl⟩
  case round =>
    obtain ⟨k, q, g1, rfl, HWR⟩ := hrel
    by_cases hlt : k < us.length
    · obtain ⟨g, hg1, -, hg3, hg4, hcap, c0, -, c2, -⟩ := HO.out.at k hlt
      subst hg1
      have hwr2 := HWR.out
      subst hwr2
      by_cases hk2 : us[k].kind = 2
      · obtain ⟨T, nn, frm, til, he, hL, hE, hfr, hto, hfl, htl, hln⟩ := HNA.out.at_ k hlt hk2
        obtain ⟨g', hg1', -, -, -, -, -, -, e2, -⟩ := HO.out.at (k + T.length - 1) he
        injection hg1' with e
        injection e with e
        subst e
        rw [hk2] at c0
        rw [hfr] at c2
        rw [hto] at e2
        have HEC := hide (fun q => HEL.out (some ⟨g, 0, none⟩) vc _ (w5.drewN q) (HO.out.below (below_drewN (Below.refl _ _) _)) k nn T hL hE)
        have HLN := hide hln
        obtain ⟨E, hEe⟩ : ∃ E, k + T.length - 1 = E := ⟨_, rfl⟩
        rw [hEe] at HEC e2 he
        have hz : F.length = FB.size := HZF.out.symm
        rw [hz] at hfl htl
        have hnT : nn ≤ 100000 := by have h1 := hE.le; have h2 := hL.1; omega
        clear hL hE hln hfr hto hEe hk2
        have hEi : (E : Int) < (us.length : Int) := by omega
        by_cases hn3 : nn < 3
        · have hn3i : (nn : Int) < 3 := by omega
          go_wp2_with (go_at_call 22; refine (HEC.out _).mono ?_; rintro e w6 ⟨rfl, q6, rfl⟩)
          go_roundw
          case rel => exact ⟨k + 1, q + q6, by omega, by go_num, rfl⟩
          case measure => simp [intOf]; omega
        · have hn3i : ¬ (nn : Int) < 3 := by omega
          obtain ⟨l1, l2, l3⟩ := HLN.out (by omega)
          have HL3 := hide l3
          rw [hz] at l1
          have htoi : ¬ (FB.size : Int) ≤ (til : Int) := by omega
          clear l3
          go_wp2_with (go_at_call 22; refine (HEC.out _).mono ?_; rintro e w6 ⟨rfl, q6, rfl⟩)
          obtain ⟨C, hC⟩ : ∃ C, C = Sc.colB 0 (F.take frm) := ⟨_, rfl⟩
          obtain ⟨E0, hE0⟩ : ∃ E0, E0 = ((F.drop frm).takeWhile Sc.inLn).length := ⟨_, rfl⟩
          rw [← hC, ← hE0] at HL3
          have HC := hide hC
          have HE0 := hide hE0
          clear hC hE0 HLN
          have hCf : C ≤ frm := by have h1 := Sc.colB_le (F.take frm); rw [← HC.out, List.length_take] at h1; omega
          go_loop [18] (fun x => ∃ a : Nat, a ≤ frm ∧ x = .int .i64 a ∧ Hid (Sc.colB 0 (F.take a) + (frm - a) = C)) (fun x => (intOf x).toNat)
          case atStart => exact ⟨frm, Nat.le_refl _, rfl, hide (by rw [HC.out]; omega)⟩
          case round =>
            obtain ⟨a, ha1, rfl, HA⟩ := hrel
            by_cases hz0 : a = 0
            · have HAX : Hid (a + C = frm) := hide (by have h1 := HA.out; rw [hz0] at h1 ⊢; simp [Sc.colB] at h1; omega)
              have ha0 : ¬ (0 : Int) < (a : Int) := by omega
              have ha4 : a ≤ 4096 := by omega
              clear hz0
              go_wp2
              go_loop [19] (fun x => ∃ b : Nat, frm ≤ b ∧ b ≤ FB.size ∧ x = .int .i64 b ∧ Hid (b - frm + ((F.drop b).takeWhile Sc.inLn).length = E0)) (fun x => FB.size - (intOf x).toNat)
              case atStart => exact ⟨frm, Nat.le_refl _, by omega, rfl, hide (by rw [← HE0.out]; omega)⟩
              case round =>
                obtain ⟨b, hb1, hb2, rfl, HB⟩ := hrel
                by_cases hbl : b < FB.size
                · have hbli : (b : Int) < (FB.size : Int) := by omega
                  obtain ⟨hbF, hbe⟩ := byte_at HDL.out hbl
                  have hst := tw_step hbF
                  have hbb := byte_ne (c := FB[b])
                  by_cases h10 : FB[b] = 10
                  · rw [decide_eq_true h10] at hbb
                    have hbn : (((FB[b].toNat : Int)) != 10) = false := by rw [bne, hbb]; rfl
                    rw [if_pos (by rw [← hbe]; exact h10)] at hst
                    have HBX : Hid (b = frm + E0) := hide (by have := HB.out; omega)
                    clear hst hbe h10
                    by_cases htb : til < b
                    · have htbi : (til : Int) < (b : Int) := by omega
                      have hwi : ¬ wn < (b : Int) - (a : Int) := by have h1 := HBX.out; have h2 := HAX.out; have h3 := HL3.out (by omega); omega
                      go_wp2
                      go_roundw
                      case rel => exact ⟨k + 1, q + q6, by omega, by go_num, rfl⟩
                      case measure => simp [intOf]; omega
                    · have htbi : ¬ (til : Int) < (b : Int) := by omega
                      go_wp2
                      go_roundw
                      case rel => exact ⟨k + 1, q + q6, by omega, by go_num, rfl⟩
                      case measure => simp [intOf]; omega
                  · rw [decide_eq_false h10] at hbb
                    have hbn : (((FB[b].toNat : Int)) != 10) = true := by rw [bne, hbb]; rfl
                    rw [if_neg (by rw [← hbe]; exact h10)] at hst
                    have HB2 : Hid (b + 1 - frm + ((F.drop (b + 1)).takeWhile Sc.inLn).length = E0) := hide (by have := HB.out; omega)
                    clear hst hbe h10
                    go_wp2
                    go_round
                    case rel => exact ⟨b + 1, by omega, by omega, by go_num, HB2⟩
                    case measure => simp [intOf]; omega
                · have hbe : b = FB.size := by omega
                  have hbli : ¬ (b : Int) < (FB.size : Int) := by omega
                  have HBX : Hid (b = frm + E0) := hide (by have h1 := HB.out; rw [List.drop_of_length_le (by omega)] at h1; simp at h1; omega)
                  clear hbe
                  by_cases htb : til < b
                  · have htbi : (til : Int) < (b : Int) := by omega
                    have hwi : ¬ wn < (b : Int) - (a : Int) := by have h1 := HBX.out; have h2 := HAX.out; have h3 := HL3.out (by omega); omega
                    go_wp2
                    go_roundw
                    case rel => exact ⟨k + 1, q + q6, by omega, by go_num, rfl⟩
                    case measure => simp [intOf]; omega
                  · have htbi : ¬ (til : Int) < (b : Int) := by omega
                    go_wp2
                    go_roundw
                    case rel => exact ⟨k + 1, q + q6, by omega, by go_num, rfl⟩
                    case measure => simp [intOf]; omega
            · obtain ⟨a', rfl⟩ : ∃ a', a = a' + 1 := ⟨a - 1, by omega⟩
              clear hz0
              have hal : a' < FB.size := by omega
              have hali : (a' : Int) < (FB.size : Int) := by omega
              obtain ⟨haF, hae⟩ := byte_at HDL.out hal
              have hst := col_step haF
              have hbb := byte_ne (c := FB[a'])
              obtain ⟨a, ha⟩ : ∃ a : Nat, a = a' + 1 := ⟨_, rfl⟩
              rw [← ha] at HA hst ha1 ⊢
              have ha0 : (0 : Int) < (a : Int) := by omega
              have ha4 : a ≤ 4096 := by omega
              have hai : (a : Int) - 1 = (a' : Int) := by omega
              by_cases h10 : FB[a'] = 10
              · rw [decide_eq_true h10] at hbb
                have hbn : (((FB[a'].toNat : Int)) != 10) = false := by rw [bne, hbb]; rfl
                rw [if_pos (by rw [← hae]; exact h10)] at hst
                have HAX : Hid (a + C = frm) := hide (by have h1 := HA.out; omega)
                clear hst hae h10 ha
                go_wp2
                go_loop [19] (fun x => ∃ b : Nat, frm ≤ b ∧ b ≤ FB.size ∧ x = .int .i64 b ∧ Hid (b - frm + ((F.drop b).takeWhile Sc.inLn).length = E0)) (fun x => FB.size - (intOf x).toNat)
                case atStart => exact ⟨frm, Nat.le_refl _, by omega, rfl, hide (by rw [← HE0.out]; omega)⟩
                case round =>
                  obtain ⟨b, hb1, hb2, rfl, HB⟩ := hrel
                  by_cases hbl : b < FB.size
                  · have hbli : (b : Int) < (FB.size : Int) := by omega
                    obtain ⟨hbF, hbe⟩ := byte_at HDL.out hbl
                    have hst := tw_step hbF
                    have hbb := byte_ne (c := FB[b])
                    by_cases h10 : FB[b] = 10
                    · rw [decide_eq_true h10] at hbb
                      have hbn : (((FB[b].toNat : Int)) != 10) = false := by rw [bne, hbb]; rfl
                      rw [if_pos (by rw [← hbe]; exact h10)] at hst
                      have HBX : Hid (b = frm + E0) := hide (by have := HB.out; omega)
                      clear hst hbe h10
                      by_cases htb : til < b
                      · have htbi : (til : Int) < (b : Int) := by omega
                        have hwi : ¬ wn < (b : Int) - (a : Int) := by have h1 := HBX.out; have h2 := HAX.out; have h3 := HL3.out (by omega); omega
                        go_wp2
                        go_roundw
                        case rel => exact ⟨k + 1, q + q6, by omega, by go_num, rfl⟩
                        case measure => simp [intOf]; omega
                      · have htbi : ¬ (til : Int) < (b : Int) := by omega
                        go_wp2
                        go_roundw
                        case rel => exact ⟨k + 1, q + q6, by omega, by go_num, rfl⟩
                        case measure => simp [intOf]; omega
                    · rw [decide_eq_false h10] at hbb
                      have hbn : (((FB[b].toNat : Int)) != 10) = true := by rw [bne, hbb]; rfl
                      rw [if_neg (by rw [← hbe]; exact h10)] at hst
                      have HB2 : Hid (b + 1 - frm + ((F.drop (b + 1)).takeWhile Sc.inLn).length = E0) := hide (by have := HB.out; omega)
                      clear hst hbe h10
                      go_wp2
                      go_round
                      case rel => exact ⟨b + 1, by omega, by omega, by go_num, HB2⟩
                      case measure => simp [intOf]; omega
                  · have hbe : b = FB.size := by omega
                    have hbli : ¬ (b : Int) < (FB.size : Int) := by omega
                    have HBX : Hid (b = frm + E0) := hide (by have h1 := HB.out; rw [List.drop_of_length_le (by omega)] at h1; simp at h1; omega)
                    clear hbe
                    by_cases htb : til < b
                    · have htbi : (til : Int) < (b : Int) := by omega
                      have hwi : ¬ wn < (b : Int) - (a : Int) := by have h1 := HBX.out; have h2 := HAX.out; have h3 := HL3.out (by omega); omega
                      go_wp2
                      go_roundw
                      case rel => exact ⟨k + 1, q + q6, by omega, by go_num, rfl⟩
                      case measure => simp [intOf]; omega
                    · have htbi : ¬ (til : Int) < (b : Int) := by omega
                      go_wp2
                      go_roundw
                      case rel => exact ⟨k + 1, q + q6, by omega, by go_num, rfl⟩
                      case measure => simp [intOf]; omega
              · rw [decide_eq_false h10] at hbb
                have hbn : (((FB[a'].toNat : Int)) != 10) = true := by rw [bne, hbb]; rfl
                rw [if_neg (by rw [← hae]; exact h10)] at hst
                have HA2 : Hid (Sc.colB 0 (F.take a') + (frm - a') = C) := hide (by have h1 := HA.out; omega)
                have hM : a' < a := by omega
                have ha1' : a' ≤ frm := by omega
                clear hst hae h10 ha
                go_wp2
                go_round
                case rel => exact ⟨a', ha1', by go_num, HA2⟩
                case measure => simp [intOf]; omega
      · have hb2 : (us[k].kind == 2) = false := beq_eq_false_iff_ne.2 hk2
        have hb2n : (us[k].kind != 2) = true := by rw [bne, hb2]; rfl
        generalize us[k].kind = kk at *
        go_wp2
        go_roundw
        case rel => exact ⟨k + 1, q, by omega, by go_num, rfl⟩
        case measure => simp [intOf]; omega
    · have hke : k = us.length := by omega
      subst hke
      have hwr2 := HWR.out
      subst hwr2
      go_wp2
      go_ret
      exact ⟨rfl, below_drewN HB5.out _⟩

set_option maxRecDepth 20000 in
set_option maxHeartbeats 4000000 in
theorem narrow_any (s : ByteArray) (n : Int) (h1 : -9223372036854775808 ≤ n) (h2 : n ≤ 9223372036854775807) (w : World) (hs : s.size ≤ maxLen) (m : Int) (hm : w.cell? ⟨0, 0, none⟩ = some (.int .i64 m)) (hml : 0 < w.heap.size) :
    Calls Tryd.prog 9 #[.string s, .int .i64 n] w fun e w' => e = .returned (.bool true) ∧ Below w.heap.size w w' := by
  have HAB := hide (able_any w m hm hml)
  obtain ⟨ts, er, pl, hsc⟩ : ∃ ts er pl, Sc.scanRes s.data.toList = (ts, er, pl) := ⟨_, _, _, rfl⟩
  have HW := hide (fun w' => widthOf_any n h1 h2 w')
  by_cases her : er = 0
  · subst her
    have hpl : pl = 0 := (Sc.scan_ok hsc).2.2.2.2
    subst hpl
    by_cases hlong : 4096 < (Sc.fmtT (Sc.wOf n).toNat ts).length
    · have HF := hide (fun w' (hb : Below w.heap.size w w') => format_any s (Sc.wOf n) w' hs m ((hb.cell hml).trans hm) _ (hide (fmtD_ok hsc n)))
      unfold fmtV at HF
      have hfl := fmtT_len hsc (Sc.wOf n).toNat
      simp only at HF
      generalize Sc.fmtT (Sc.wOf n).toNat ts = F at *
      have hzf := wbsize F
      generalize (⟨F.toArray⟩ : ByteArray) = FB at *
      rw [← hzf] at hlong hfl
      have hlong' : (4096 : Int) < FB.size := by omega
      clear hzf hsc
      generalize Sc.wOf n = wn at *
      go_enter Tryd.func9, Tryd.ntmps9
      go_wp2_with (first
        | (go_at_call 17; refine HAB.out.mono ?_; rintro e w1 ⟨rfl, hb1⟩)
        | (go_at_call 19; refine (HW.out _).mono ?_; rintro e w3 ⟨rfl, hw3⟩; subst w3)
        | (go_at_call 18; refine (HF.out _ hb1).mono ?_; rintro e w4 ⟨rfl, hb4⟩; have HB4 := hide (hb1.trans (hb4.mono hb1.size)); clear hb4))
      go_ret
      exact ⟨rfl, HB4.out⟩
    · rcases Sc.fmt_pieces hsc (Sc.wOf n).toNat with ⟨e1, e2⟩ | ⟨ps, hne, e2, e3, e4, e5, e6, t0, r0, e7⟩
      · exact narrow_loop s n h1 h2 w hs m hm hml ts hsc [] [] e2 rfl (by simp) ⟨fun i hi => by simp at hi⟩
      · rw [e2] at hlong
        exact narrow_loop s n h1 h2 w hs m hm hml ts hsc _ _ e2 (Sc.scan_render hsc ps [10] (by rw [e4, Sc.erase_erase]) e5 (by omega)) (by omega)
          ⟨fun i hi hk => by
            obtain ⟨T, nn, frm, til, he, a1, a2, a3, a4, a5, a6, a7⟩ := Sc.nar_at hsc (Sc.wOf n).toNat e3 e4 i hi hk
            exact ⟨T, nn, frm, til, he, a1, a2, a3, a4, a5, a6, a7⟩⟩
  · have HF := hide (fun w' (hb : Below w.heap.size w w') => format_any s (Sc.wOf n) w' hs m ((hb.cell hml).trans hm) _ (hide (fmtD_bad hsc her n)))
    unfold fmtV at HF
    simp only at HF
    have hbe : (er == 0) = false := beq_eq_false_iff_ne.2 her
    have hbn : (er != 0) = true := by rw [bne, hbe]; rfl
    have hemp : (⟨([] : List UInt8).toArray⟩ : ByteArray) = ⟨#[]⟩ := rfl
    rw [hemp] at HF
    clear her hsc hemp
    generalize Sc.wOf n = wn at *
    go_enter Tryd.func9, Tryd.ntmps9
    go_wp2_with (first
      | (go_at_call 17; refine HAB.out.mono ?_; rintro e w1 ⟨rfl, hb1⟩)
      | (go_at_call 19; refine (HW.out _).mono ?_; rintro e w3 ⟨rfl, hw3⟩; subst w3)
      | (go_at_call 18; refine (HF.out _ hb1).mono ?_; rintro e w4 ⟨rfl, hb4⟩; have HB4 := hide (hb1.trans (hb4.mono hb1.size)); clear hb4))
    go_ret
    exact ⟨rfl, HB4.out⟩
end Go.Proofs.YtoieklacpkahbaaDoor
