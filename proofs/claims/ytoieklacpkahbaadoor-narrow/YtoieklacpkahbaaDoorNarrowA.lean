/- The walk of elements. -/
import Derived.Test.YtoieklacpkahbaaDoorSameWalk
import Derived.Test.YtoieklacpkahbaaDoorPlainH
namespace Go.Proofs.YtoieklacpkahbaaDoor
open Go.RowKit

set_option maxRecDepth 20000 in
set_option maxHeartbeats 8000000 in
theorem lawElements_any (ao : Option Addr) (ac : Nat) (us : List Sc.Tok) (A : Nat) (w : World) (ha : Owns w A (.slice ao us.length ac) us) (hn : us.length ≤ 100000) (i n : Nat) (T : List Sc.Tok) (hL : Sc.LstAt us i T) (hE : Sc.Els T n) :
    Calls Tryd.prog 22 #[.slice ao us.length ac, .int .i64 i] w fun e w' => e = .returned (.tuple #[.int .i64 n, .int .i64 ((i + T.length - 1 : Nat) : Int)]) ∧ ∃ q, w' = w.drewN q := by
  have hiT := hL.1
  have hpos := hE.pos
  have HL := hide hL.2
  have HE := hide hE
  clear hL hE
  obtain ⟨N, hN⟩ : ∃ N, us.length = N := ⟨_, rfl⟩
  rw [hN] at ha hn hiT ⊢
  obtain ⟨t, ht⟩ : ∃ t, T.length = t := ⟨_, rfl⟩
  rw [ht] at hiT hpos ⊢
  have HN := hide hN
  have HT := hide ht
  have HA := hide ha
  clear ha hN ht
  go_enter Tryd.func22, Tryd.ntmps22
  go_wp2
  go_loopw [6, 7, 8] (fun d m k wr => ∃ (j m0 q K : Nat) (d0 : Int), j < t ∧ d = .int .i64 d0 ∧ m = .int .i64 m0 ∧ k = .int .i64 K ∧ i + j = K ∧ d0 ≤ j ∧ 0 ≤ d0 ∧ m0 ≤ j ∧ (d0 = 0 ↔ j = 0) ∧ Hid (d0 = Sc.net (T.take j) ∧ m0 + Sc.rem T j = n) ∧ Hid (wr = w.drewN q)) (fun _ _ k _ => N - (intOf k).toNat)
  case atStart => exact ⟨0, 0, 0, i, 0, hpos, rfl, rfl, rfl, rfl, by omega, by omega, by omega, by simp, hide ⟨by simp [Sc.net], by rw [Sc.rem_zero, HE.out.cnt]; omega⟩, rfl⟩
  case round =>
    obtain ⟨j, m0, q, K, d0, hj, rfl, rfl, rfl, hK, hd1, hd0, hm1, hdj, HI, HW⟩ := hrel
    have hjT : j < T.length := by have := HT.out; omega
    have hkN : K < us.length := by have := HN.out; omega
    obtain ⟨g, hg1, -, -, hg4, hcap, c0, -, -, -⟩ := HA.out.at K hkN
    subst hg1
    have hc1 : N ≤ ac := by have := HN.out; omega
    have hkk : us[K].kind = T[j].kind := by
      have := HL.out j hjT
      rw [hK, List.getElem?_eq_getElem hkN] at this
      simpa using this
    rw [hkk] at c0
    have hpr : Hid (0 < j → ∃ pk : Int, w.cell? ⟨g, (K - 1) * 4, none⟩ = some (.int .i64 pk) ∧ (((T[j - 1]?).map (·.kind)).getD 0) = pk) := hide fun h0 => by
      have hjT1 : j - 1 < T.length := by omega
      have hkN1 : K - 1 < us.length := by omega
      obtain ⟨g', hg1', -, -, -, -, c0', -⟩ := HA.out.at (K - 1) hkN1
      injection hg1' with e
      injection e with e
      subst e
      refine ⟨_, c0', ?_⟩
      have := HL.out (j - 1) hjT1
      rw [show i + (j - 1) = K - 1 by omega, List.getElem?_eq_getElem hkN1] at this
      rw [List.getElem?_eq_getElem hjT1]
      simpa using this.symm
    have hstep := Sc.rem_succ T j hjT
    have hnet := Sc.net_take_succ T j hjT
    have hins : j + 1 < t → 1 ≤ Sc.net (T.take (j + 1)) := fun h => HE.out.ins (j + 1) (by omega) (by have := HT.out; omega)
    have hfin : j + 1 = t → Sc.net (T.take (j + 1)) = 0 := fun h => by
      rw [List.take_of_length_le (by have := HT.out; omega)]; exact HE.out.fin
    have hrend : j + 1 = t → Sc.rem T (j + 1) = 0 := fun h => by
      rw [show j + 1 = T.length by have := HT.out; omega]; exact Sc.rem_end T
    have hle := Sc.net_len (T.take (j + 1))
    have hle2 : (T.take (j + 1)).length = j + 1 := by simp; omega
    rw [← HI.out.1] at hnet hstep
    have HI2 := HI.out.2
    obtain ⟨d1, hd1e⟩ : ∃ d1, d1 = Sc.net (T.take (j + 1)) := ⟨_, rfl⟩
    obtain ⟨r1, hr1e⟩ : ∃ r1, r1 = Sc.rem T (j + 1) := ⟨_, rfl⟩
    rw [← hd1e] at hnet hins hfin hle
    rw [← hr1e] at hstep hrend
    have HD1 := hide hd1e
    have HR1 := hide hr1e
    clear hd1e hr1e
    obtain ⟨pk', hpk'⟩ : ∃ pk' : Int, pk' = (if j = 0 then 0 else ((T[j - 1]?).map (·.kind)).getD 0) := ⟨_, rfl⟩
    rw [← hpk'] at hstep
    have HPK : Hid (0 < j → w.cell? ⟨g, (K - 1) * 4, none⟩ = some (.int .i64 pk')) := hide fun h0 => by
      obtain ⟨pk, h1, h2⟩ := hpr.out h0
      rw [hpk', if_neg (by omega), h2]; exact h1
    clear hpr hpk'
    generalize T[j].kind = kk at *
    rw [hle2] at hle
    have hK1 : K ≤ N := by have := HN.out; omega
    have hKi : (0 : Int) ≤ K := by omega
    have hwr := HW.out
    subst hwr
    clear hle2 hjT hkN hkk hcap HI
    by_cases h3 : kk = 3
    · subst h3
      rw [if_neg (by omega), if_pos rfl] at hnet
      rw [if_neg (fun h => h.2.1 rfl)] at hstep
      by_cases hd : d0 = 1
      · subst hd
        have hr0 := hrend
        have HRES : Hid (d1 = 0 ∧ m0 + r1 = n ∧ j + 1 = t) := hide (by
          have hx : ¬ j + 1 < t := fun h => by have := hins h; omega
          exact ⟨by omega, by omega, by omega⟩)
        have HE0 : Hid (m0 = n ∧ K = i + t - 1) := hide ⟨by have h1 := HRES.out.2.1; have h2 := hr0 HRES.out.2.2; omega, by have h1 := HRES.out.2.2; omega⟩
        clear hnet hstep hins hfin hrend HI2 hr0
        go_wp2
        go_ret2
        exact ⟨by first | (rw [HE0.out.1, HE0.out.2]; done) | (rw [HE0.out.1, HE0.out.2]; rfl) | (rw [← HE0.out.2, HE0.out.1]; rfl), _, rfl⟩
      · have hb1 : (d0 == 1) = false := beq_eq_false_iff_ne.2 hd
        have hz0 : d0 - 1 ≠ 0 := by omega
        have hz1 : (d0 - 1 == 0) = false := beq_eq_false_iff_ne.2 hz0
        have HRES : Hid (d1 = d0 - 1 ∧ m0 + r1 = n ∧ j + 1 < t) := hide (by
          have hx : j + 1 ≠ t := fun h => by have := hfin h; omega
          exact ⟨by omega, by omega, by omega⟩)
        have hde : 1 ≤ d0 - 1 := by have h1 := hins HRES.out.2.2; have h2 := HRES.out.1; omega
        clear hnet hstep hins hfin hrend HI2
        go_wp2
        go_roundw
        case rel => exact ⟨j + 1, m0, q, K + 1, d0 - 1, HRES.out.2.2, by go_num, by go_num, by go_num, by omega, by omega, by omega, by omega, by omega, hide ⟨HRES.out.1.symm.trans HD1.out, by rw [← HR1.out]; exact HRES.out.2.1⟩, rfl⟩
        case measure => simp [intOf]; omega
    · have hb3 : (kk == 3) = false := beq_eq_false_iff_ne.2 h3
      have hb3n : (kk != 3) = true := by rw [bne, hb3]; rfl
      by_cases h2 : kk = 2
      · subst h2
        rw [if_pos rfl, if_neg (by omega)] at hnet
        by_cases hd : d0 = 1
        · subst hd
          have cpk := HPK.out (by omega)
          have hKp : (0 : Int) < K := by omega
          by_cases h4 : pk' = 4
          · subst h4
            rw [if_neg (fun h => h.2.2 rfl)] at hstep
            have HRES : Hid (d1 = 1 + 1 ∧ m0 + r1 = n ∧ j + 1 < t) := hide (by
              have hx : j + 1 ≠ t := fun h => by have := hfin h; omega
              exact ⟨by omega, by omega, by omega⟩)
            have hde : 1 ≤ 1 + 1 := by have h1 := hins HRES.out.2.2; have h2 := HRES.out.1; omega
            clear hnet hstep hins hfin hrend HI2
            go_wp2
            go_roundw
            case rel => exact ⟨j + 1, m0, q, K + 1, 1 + 1, HRES.out.2.2, by go_num, by go_num, by go_num, by omega, by omega, by omega, by omega, by omega, hide ⟨HRES.out.1.symm.trans HD1.out, by rw [← HR1.out]; exact HRES.out.2.1⟩, rfl⟩
            case measure => simp [intOf]; omega
          · have hb4 : (pk' == 4) = false := beq_eq_false_iff_ne.2 h4
            have hb4n : (pk' != 4) = true := by rw [bne, hb4]; rfl
            rw [if_pos ⟨rfl, by omega, h4⟩] at hstep
            have HRES : Hid (d1 = 1 + 1 ∧ (m0 + 1) + r1 = n ∧ j + 1 < t) := hide (by
              have hx : j + 1 ≠ t := fun h => by have := hfin h; omega
              exact ⟨by omega, by omega, by omega⟩)
            have hde : 1 ≤ 1 + 1 := by have h1 := hins HRES.out.2.2; have h2 := HRES.out.1; omega
            clear hnet hstep hins hfin hrend HI2
            go_wp2
            go_roundw
            case rel => exact ⟨j + 1, (m0 + 1), q, K + 1, 1 + 1, HRES.out.2.2, by go_num, by go_num, by go_num, by omega, by omega, by omega, by omega, by omega, hide ⟨HRES.out.1.symm.trans HD1.out, by rw [← HR1.out]; exact HRES.out.2.1⟩, rfl⟩
            case measure => simp [intOf]; omega
        · have hb1 : (d0 == 1) = false := beq_eq_false_iff_ne.2 hd
          rw [if_neg (fun h => hd h.1)] at hstep
          have hz1 : (d0 + 1 == 0) = false := beq_eq_false_iff_ne.2 (by omega)
          have HRES : Hid (d1 = d0 + 1 ∧ m0 + r1 = n ∧ j + 1 < t) := hide (by
            have hx : j + 1 ≠ t := fun h => by have := hfin h; omega
            exact ⟨by omega, by omega, by omega⟩)
          have hde : 1 ≤ d0 + 1 := by have h1 := hins HRES.out.2.2; have h2 := HRES.out.1; omega
          clear hnet hstep hins hfin hrend HI2
          go_wp2
          go_roundw
          case rel => exact ⟨j + 1, m0, q, K + 1, d0 + 1, HRES.out.2.2, by go_num, by go_num, by go_num, by omega, by omega, by omega, by omega, by omega, hide ⟨HRES.out.1.symm.trans HD1.out, by rw [← HR1.out]; exact HRES.out.2.1⟩, rfl⟩
          case measure => simp [intOf]; omega
      · have hb2 : (kk == 2) = false := beq_eq_false_iff_ne.2 h2
        rw [if_neg h2, if_neg h3] at hnet
        by_cases hd : d0 = 1
        · subst hd
          have cpk := HPK.out (by omega)
          have hKp : (0 : Int) < K := by omega
          by_cases h4 : pk' = 4
          · subst h4
            rw [if_neg (fun h => h.2.2 rfl)] at hstep
            have HRES : Hid (d1 = 1 ∧ m0 + r1 = n ∧ j + 1 < t) := hide (by
              have hx : j + 1 ≠ t := fun h => by have := hfin h; omega
              exact ⟨by omega, by omega, by omega⟩)
            have hde : 1 ≤ 1 := by have h1 := hins HRES.out.2.2; have h2 := HRES.out.1; omega
            clear hnet hstep hins hfin hrend HI2
            go_wp2
            go_roundw
            case rel => exact ⟨j + 1, m0, q, K + 1, 1, HRES.out.2.2, by go_num, by go_num, by go_num, by omega, by omega, by omega, by omega, by omega, hide ⟨HRES.out.1.symm.trans HD1.out, by rw [← HR1.out]; exact HRES.out.2.1⟩, rfl⟩
            case measure => simp [intOf]; omega
          · have hb4 : (pk' == 4) = false := beq_eq_false_iff_ne.2 h4
            have hb4n : (pk' != 4) = true := by rw [bne, hb4]; rfl
            rw [if_pos ⟨rfl, h3, h4⟩] at hstep
            have HRES : Hid (d1 = 1 ∧ (m0 + 1) + r1 = n ∧ j + 1 < t) := hide (by
              have hx : j + 1 ≠ t := fun h => by have := hfin h; omega
              exact ⟨by omega, by omega, by omega⟩)
            have hde : 1 ≤ 1 := by have h1 := hins HRES.out.2.2; have h2 := HRES.out.1; omega
            clear hnet hstep hins hfin hrend HI2
            go_wp2
            go_roundw
            case rel => exact ⟨j + 1, (m0 + 1), q, K + 1, 1, HRES.out.2.2, by go_num, by go_num, by go_num, by omega, by omega, by omega, by omega, by omega, hide ⟨HRES.out.1.symm.trans HD1.out, by rw [← HR1.out]; exact HRES.out.2.1⟩, rfl⟩
            case measure => simp [intOf]; omega
        · have hb1 : (d0 == 1) = false := beq_eq_false_iff_ne.2 hd
          rw [if_neg (fun h => hd h.1)] at hstep
          by_cases hz : d0 = 0
          · subst hz
            have hr0 := hrend
            have HRES : Hid (d1 = 0 ∧ m0 + r1 = n ∧ j + 1 = t) := hide (by
              have hx : ¬ j + 1 < t := fun h => by have := hins h; omega
              exact ⟨by omega, by omega, by omega⟩)
            have HE0 : Hid (m0 = n ∧ K = i + t - 1) := hide ⟨by have h1 := HRES.out.2.1; have h2 := hr0 HRES.out.2.2; omega, by have h1 := HRES.out.2.2; omega⟩
            clear hnet hstep hins hfin hrend HI2 hr0
            go_wp2
            go_ret2
            exact ⟨by first | (rw [HE0.out.1, HE0.out.2]; done) | (rw [HE0.out.1, HE0.out.2]; rfl) | (rw [← HE0.out.2, HE0.out.1]; rfl), _, rfl⟩
          · have hz1 : (d0 == 0) = false := beq_eq_false_iff_ne.2 hz
            have HRES : Hid (d1 = d0 ∧ m0 + r1 = n ∧ j + 1 < t) := hide (by
              have hx : j + 1 ≠ t := fun h => by have := hfin h; omega
              exact ⟨by omega, by omega, by omega⟩)
            have hde : 1 ≤ d0 := by have h1 := hins HRES.out.2.2; have h2 := HRES.out.1; omega
            clear hnet hstep hins hfin hrend HI2
            go_wp2
            go_roundw
            case rel => exact ⟨j + 1, m0, q, K + 1, d0, HRES.out.2.2, by go_num, by go_num, by go_num, by omega, by omega, by omega, by omega, by omega, hide ⟨HRES.out.1.symm.trans HD1.out, by rw [← HR1.out]; exact HRES.out.2.1⟩, rfl⟩
            case measure => simp [intOf]; omega
end Go.Proofs.YtoieklacpkahbaaDoor
