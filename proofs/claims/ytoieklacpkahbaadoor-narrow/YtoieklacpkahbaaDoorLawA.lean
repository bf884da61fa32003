/- Walks of the laws: able, widthOf, like. -/
import Derived.Test.YtoieklacpkahbaaDoorLayS
import Derived.Test.YtoieklacpkahbaaDoorPlainF
namespace Go.Proofs.YtoieklacpkahbaaDoor
open Go.RowKit
theorem ex_fmtD : Sc.fmtD (⟨#[40, 102, 32, 32, 32, 97, 10, 32, 98, 41]⟩ : ByteArray).data.toList 6 = ([40, 102, 32, 97, 10, 32, 32, 32, 98, 41, 10], 0, 0) := by
  unfold Sc.fmtD
  rw [if_neg (by omega)]
  exact Sc.ex_fmt
set_option maxRecDepth 20000 in
set_option maxHeartbeats 1000000 in
theorem able_any (w : World) (m : Int) (hm : w.cell? ⟨0, 0, none⟩ = some (.int .i64 m)) (hml : 0 < w.heap.size) :
    Calls Tryd.prog 17 #[] w fun e w' => e = .returned (.bool true) ∧ Below w.heap.size w w' := by
  obtain ⟨ts, hts, hsc⟩ := Sc.ex_scan0
  have HSC := hide (scan_any ⟨#[40, 97, 32, 39, 98, 41, 32, 59, 32, 99, 32]⟩ w (by unfold maxLen; decide) m hm _ (hide hsc))
  have HF := hide (fun w' (hb : Below w.heap.size w w') => format_any ⟨#[40, 102, 32, 32, 32, 97, 10, 32, 98, 41]⟩ 6 w' (by unfold maxLen; decide) m ((hb.cell hml).trans hm) _ (hide ex_fmtD))
  unfold fmtV at HF
  clear hsc
  go_enter Tryd.func17, Tryd.ntmps17
  go_wp2_with (first
    | (go_at_call 11; refine HSC.out.mono ?_; rintro e w1 ⟨v, rfl, ho, hb1, -⟩; obtain ⟨va, vc, rfl⟩ := ho.shape; rw [hts] at *; clear ho)
    | (go_at_call 18; refine (HF.out _ hb1).mono ?_; rintro e w2 ⟨rfl, hb2⟩))
  go_ret
  exact ⟨rfl, hb1.trans (hb2.mono hb1.size)⟩
set_option maxHeartbeats 1000000 in
theorem widthOf_any (n : Int) (h1 : -9223372036854775808 ≤ n) (h2 : n ≤ 9223372036854775807) (w : World) :
    Calls Tryd.prog 19 #[.int .i64 n] w fun e w' => e = .returned (.int .i64 (Sc.wOf n)) ∧ w' = w := by
  generalize hR : Sc.wOf n = R
  unfold Sc.wOf at hR
  by_cases hn : n < 0
  · rw [if_pos hn] at hR
    have HR := hide hR
    clear hR
    go_enter Tryd.func19, Tryd.ntmps19
    go_wp2
    go_ret
    refine ⟨ret_int ?_, rfl⟩
    rw [← HR.out]
    have ht : (n + 1).tmod 200 = -((-(n + 1)) % 200) := by
      rw [← Int.tmod_eq_emod_of_nonneg (show (0 : Int) ≤ -(n + 1) by omega), Int.neg_tmod, Int.neg_neg]
    rw [ht]
    unfold wrap64
    omega
  · rw [if_neg hn] at hR
    have HR := hide hR
    clear hR
    go_enter Tryd.func19, Tryd.ntmps19
    go_wp2
    go_ret
    exact ⟨ret_int HR.out, rfl⟩

theorem key_at {ts us : List Sc.Tok} (h : ts.map Sc.key = us.map Sc.key) (k : Nat) (hk : k < ts.length) (hk' : k < us.length) : ts[k].kind = us[k].kind ∧ ts[k].text = us[k].text ∧ ts[k].behind = us[k].behind := by
  have h1 : (ts.map Sc.key)[k]? = (us.map Sc.key)[k]? := by rw [h]
  rw [List.getElem?_map, List.getElem?_map, List.getElem?_eq_getElem hk, List.getElem?_eq_getElem hk'] at h1
  have h2 : Sc.key ts[k] = Sc.key us[k] := by simpa using h1
  exact ⟨Sc.key_kind h2, Sc.key_text h2, Sc.key_behind h2⟩
set_option maxRecDepth 20000 in
set_option maxHeartbeats 1000000 in
theorem like_true (ao bo : Option Addr) (ac bc : Nat) (ts us : List Sc.Tok) (A B : Nat) (w : World) (ha : Owns w A (.slice ao ts.length ac) ts) (hb : Owns w B (.slice bo us.length bc) us) (hk : ts.map Sc.key = us.map Sc.key) (hn : ts.length ≤ 1000000) :
    Calls Tryd.prog 20 #[.slice ao ts.length ac, .slice bo us.length bc] w fun e w' => e = .returned (.bool true) ∧ ∃ n, w' = w.drewN n := by
  have hlen : ts.length = us.length := by have := congrArg List.length hk; simpa using this
  have HK := hide hk
  clear hk
  rw [← hlen] at hb ⊢
  have HM := hide hlen.symm
  clear hlen
  obtain ⟨N, hN⟩ : ∃ N, ts.length = N := ⟨_, rfl⟩
  rw [hN] at ha hb hn HM ⊢
  have HN := hide hN
  have HA := hide ha
  have HB := hide hb
  clear ha hb hN
  go_enter Tryd.func20, Tryd.ntmps20
  go_wp2
  go_loopw [5] (fun i wr => ∃ (k n : Nat), k ≤ N ∧ i = .int .i64 k ∧ Hid (wr = w.drewN n)) (fun i _ => N - (intOf i).toNat)
  case atStart => exact ⟨0, 0, by omega, rfl, rfl⟩
  case round =>
    obtain ⟨k, n, hk, rfl, HW⟩ := hrel
    by_cases hltn : k < N
    · have hlt : k < ts.length := by have := HN.out; omega
      have hlt' : k < us.length := by have := HM.out; omega
      obtain ⟨g, hg1, -, -, hg4, hcap, c0, c1, -, c3⟩ := HA.out.at k hlt
      obtain ⟨g', hg1', -, -, hg4', hcap', d0, d1, -, d3⟩ := HB.out.at k hlt'
      subst hg1 hg1'
      obtain ⟨q1, q2, q3⟩ := key_at HK.out k hlt hlt'
      rw [← q1] at d0
      rw [← q2] at d1
      rw [← q3] at d3
      clear q1 q2 q3
      generalize ts[k].kind = kk at *
      generalize (⟨ts[k].text.toArray⟩ : ByteArray) = tt at *
      generalize ts[k].behind = bb at *
      have hc1 : N ≤ ac := by have := HN.out; omega
      have hc2 : N ≤ bc := by have := HM.out; omega
      clear hlt hlt' hcap hcap'
      have hwr := HW.out
      subst hwr
      go_wp2
      go_quiet (fail)
      go_wp2
      go_roundw
      case rel => exact ⟨k + 1, n + nq, by omega, by go_num, rfl⟩
      case measure => simp [intOf]; omega
    · have hwr := HW.out
      subst hwr
      go_wp2
      go_ret
      exact ⟨rfl, _, rfl⟩
end Go.Proofs.YtoieklacpkahbaaDoor
