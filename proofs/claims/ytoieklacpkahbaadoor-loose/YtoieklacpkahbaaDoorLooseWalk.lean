/- The walk of Loose. -/
import Derived.Test.YtoieklacpkahbaaDoorSameWalk
import Derived.Test.YtoieklacpkahbaaDoorLooseD
namespace Go.Proofs.YtoieklacpkahbaaDoor
open Go.RowKit
theorem fmtD_loose {l : List UInt8} {ts : List Sc.Tok} {pl : Int} (h : Sc.scanRes l = (ts, 0, pl)) (n : Int) {S : List UInt8} (hL : Loo ts ts.length S) (hl : S.length ≤ 4096) : Sc.fmtD S (Sc.wOf n) = (Sc.fmtT (Sc.wOf n).toNat ts, 0, 0) := by
  have := Sc.wOf_in n
  obtain ⟨ps, h1, h2, rfl, _⟩ := hL
  unfold Sc.fmtD
  rw [if_neg (by omega)]
  exact Sc.loose_plain h ps [] (by rw [h1, List.take_length]) h2 hl _

set_option maxRecDepth 20000 in
set_option maxHeartbeats 4000000 in
theorem looses_any (s : ByteArray) (go : Option Addr) (gn gc : Nat) (hgm : gn ≤ maxLen) (n : Int) (h1 : -9223372036854775808 ≤ n) (h2 : n ≤ 9223372036854775807) (w : World) (hg : GapsAt w go gn gc) (hs : s.size ≤ maxLen) (m : Int) (hm : w.cell? ⟨0, 0, none⟩ = some (.int .i64 m)) (hml : 0 < w.heap.size) :
    Calls Tryd.prog 7 #[.string s, .slice go gn gc, .int .i64 n] w fun e w' => e = .returned (.bool true) ∧ Below w.heap.size w w' := by
  have HAB := hide (able_any w m hm hml)
  obtain ⟨ts, er, pl, hsc⟩ : ∃ ts er pl, Sc.scanRes s.data.toList = (ts, er, pl) := ⟨_, _, _, rfl⟩
  have HS := hide (fun w' (hb : Below w.heap.size w w') => scan_any s w' hs m ((hb.cell hml).trans hm) _ (hide hsc))
  have HW := hide (fun w' => widthOf_any n h1 h2 w')
  have HG := hide hg
  clear hg
  by_cases her : er = 0
  · subst her
    have hpl : pl = 0 := (Sc.scan_ok hsc).2.2.2.2
    subst hpl
    have HF := hide (fun w' (hb : Below w.heap.size w w') => format_any s (Sc.wOf n) w' hs m ((hb.cell hml).trans hm) _ (hide (fmtD_ok hsc n)))
    unfold fmtV at HF
    have HLO := hide (fun lo lc w' (hb : Below w.heap.size w w') (ho : Owns w' w.heap.size (.slice lo ts.length lc) ts) => loose_any (hide hsc) lo lc w.heap.size go gn gc hgm w' ho (HG.out.below hb))
    have HU0 : Hid (∀ (S : List UInt8), Loo ts ts.length S → S.length ≤ 4096 → ∀ w' (hb : Below w.heap.size w w'), Calls Tryd.prog 18 #[.string ⟨S.toArray⟩, .int .i64 (Sc.wOf n)] w' fun e w'' => e = .returned (fmtV (Sc.fmtT (Sc.wOf n).toNat ts, 0, 0)) ∧ Below w'.heap.size w' w'') := hide fun S hL hl w' hb =>
      format_any ⟨S.toArray⟩ (Sc.wOf n) w' (by rw [wbsize]; unfold maxLen; omega) m ((hb.cell hml).trans hm) _ (hide (show Sc.fmtD (⟨S.toArray⟩ : ByteArray).data.toList (Sc.wOf n) = _ by simpa using fmtD_loose hsc n hL hl))
    unfold fmtV at HU0
    have HSL : Hid (∀ S, Loo ts ts.length S → S.length ≤ 60000) := hide fun S hL => by
      obtain ⟨_, _, _, _, h⟩ := hL
      have := (Sc.scan_toks hsc).1
      have := (Sc.scan_toks hsc).2.1
      rw [List.take_length] at h
      omega
    have htl := (Sc.scan_toks hsc).2.1
    obtain ⟨F, hF⟩ : ∃ F, F = Sc.fmtT (Sc.wOf n).toNat ts := ⟨_, rfl⟩
    rw [← hF] at HF HU0
    generalize (⟨F.toArray⟩ : ByteArray) = FB at *
    clear hF hsc hs
    generalize Sc.wOf n = wn at *
    go_enter Tryd.func7, Tryd.ntmps7
    go_wp2_with (first
      | (go_at_call 17; refine HAB.out.mono ?_; rintro e w1 ⟨rfl, hb1⟩)
      | (go_at_call_of 11 s; refine (HS.out _ hb1).mono ?_; rintro e w2 ⟨v, rfl, ho, hb2, -⟩; obtain ⟨va, vc, rfl⟩ := ho.shape; have HB2 := hide (hb1.trans (hb2.mono hb1.size)); have HO := hide (ho.base hb1.size); clear ho hb2)
      | (go_at_call 21; refine (HLO.out _ _ _ HB2.out HO.out).mono ?_; rintro e w3 ⟨⟨S, rfl, hL⟩, hb3⟩; have HB3 := hide (HB2.out.trans (hb3.mono HB2.out.size)); clear hb3; have HU := hide (HU0.out S hL); have hSl := HSL.out S hL; have hzS := wbsize S; clear hL; generalize (⟨S.toArray⟩ : ByteArray) = SB at *; rw [← hzS] at hSl)
      | (go_at_call 19; refine (HW.out _).mono ?_; rintro e w4 ⟨rfl, rfl⟩)
      | (go_at_call_of 18 s; refine (HF.out _ HB3.out).mono ?_; rintro e w5 ⟨rfl, hb5⟩; have HB5 := hide (HB3.out.trans (hb5.mono HB3.out.size)); clear hb5)
      | (go_at_call_of 18 SB; refine (HU.out (by omega) _ HB5.out).mono ?_; rintro e w6 ⟨rfl, hb6⟩; have HB6 := hide (HB5.out.trans (hb6.mono HB5.out.size)); clear hb6))
    · go_ret
      first
        | exact ⟨rfl, HB3.out⟩
        | exact ⟨rfl, HB6.out⟩
    · go_ret
      first
        | exact ⟨rfl, HB6.out⟩
        | exact ⟨rfl, HB3.out⟩
  · have hbe : (er == 0) = false := beq_eq_false_iff_ne.2 her
    have hbn : (er != 0) = true := by rw [bne, hbe]; rfl
    clear her hsc
    go_enter Tryd.func7, Tryd.ntmps7
    go_wp2_with (first
      | (go_at_call 17; refine HAB.out.mono ?_; rintro e w1 ⟨rfl, hb1⟩)
      | (go_at_call_of 11 s; refine (HS.out _ hb1).mono ?_; rintro e w2 ⟨v, rfl, ho, hb2, -⟩; obtain ⟨va, vc, rfl⟩ := ho.shape; have HB2 := hide (hb1.trans (hb2.mono hb1.size)); clear ho hb2))
    go_ret
    exact ⟨rfl, HB2.out⟩
end Go.Proofs.YtoieklacpkahbaaDoor
