/- The walk of Same. -/
import Derived.Test.YtoieklacpkahbaaDoorLawA
namespace Go.Proofs.YtoieklacpkahbaaDoor
open Go.RowKit
theorem fmtT_len {l : List UInt8} {ts : List Sc.Tok} {pl : Int} (h : Sc.scanRes l = (ts, 0, pl)) (W : Nat) : (Sc.fmtT W ts).length ≤ 1000000000 := by
  have hps := Sc.parse_spec (Sc.els_of_scan h)
  obtain ⟨-, htw⟩ := toks_of ts _ pl h
  obtain ⟨hwt, htl, -⟩ := Sc.scan_toks h
  unfold Sc.fmtT
  obtain ⟨es, hes⟩ : ∃ es, es = Sc.parse (ts.map Sc.erase) := ⟨_, rfl⟩
  rw [← hes] at hps ⊢
  rw [← hps.1] at htw
  have hwe : Sc.wt (Sc.toksL es) ≤ 8192 := by rw [hps.1, Sc.wt_erase]; exact hwt
  have hle : (Sc.toksL es).length ≤ 4096 := by rw [hps.1, List.length_map]; exact htl
  have := row_len W es htw 0 0 0 false (fun _ _ _ => by omega) (by omega)
  unfold Sc.layAll
  split
  · simp
  · rw [Sc.render_tl, List.length_append, List.length_singleton]; omega
theorem fmtD_ok {l : List UInt8} {ts : List Sc.Tok} {pl : Int} (h : Sc.scanRes l = (ts, 0, pl)) (n : Int) : Sc.fmtD l (Sc.wOf n) = (Sc.fmtT (Sc.wOf n).toNat ts, 0, 0) := by
  have := Sc.wOf_in n
  unfold Sc.fmtD Sc.fmtRes
  rw [if_neg (by omega), h]
  rfl
theorem fmtD_bad {l : List UInt8} {ts : List Sc.Tok} {er pl : Int} (h : Sc.scanRes l = (ts, er, pl)) (he : er ≠ 0) (n : Int) : Sc.fmtD l (Sc.wOf n) = ([], er, pl) := by
  have := Sc.wOf_in n
  unfold Sc.fmtD Sc.fmtRes
  rw [if_neg (by omega), h]
  simp only
  rw [if_neg he]
theorem scan_long {l : List UInt8} (h : 4096 < l.length) : Sc.scanRes l = ([], 1, 0) := by
  unfold Sc.scanRes; rw [if_pos h]

set_option maxRecDepth 20000 in
set_option maxHeartbeats 2000000 in
theorem sames_any (s : ByteArray) (n : Int) (h1 : -9223372036854775808 ≤ n) (h2 : n ≤ 9223372036854775807) (w : World) (hs : s.size ≤ maxLen) (m : Int) (hm : w.cell? ⟨0, 0, none⟩ = some (.int .i64 m)) (hml : 0 < w.heap.size) :
    Calls Tryd.prog 5 #[.string s, .int .i64 n] w fun e w' => e = .returned (.bool true) ∧ Below w.heap.size w w' := by
  have HAB := hide (able_any w m hm hml)
  obtain ⟨ts, er, pl, hsc⟩ : ∃ ts er pl, Sc.scanRes s.data.toList = (ts, er, pl) := ⟨_, _, _, rfl⟩
  have HS := hide (fun w' (hb : Below w.heap.size w w') => scan_any s w' hs m ((hb.cell hml).trans hm) _ (hide hsc))
  have HW := hide (fun w' => widthOf_any n h1 h2 w')
  by_cases her : er = 0
  · subst her
    have hpl : pl = 0 := (Sc.scan_ok hsc).2.2.2.2
    subst hpl
    have HF := hide (fun w' (hb : Below w.heap.size w w') => format_any s (Sc.wOf n) w' hs m ((hb.cell hml).trans hm) _ (hide (fmtD_ok hsc n)))
    unfold fmtV at HF
    have hfl := fmtT_len hsc (Sc.wOf n).toNat
    have htl := (Sc.scan_toks hsc).2.1
    obtain ⟨F, hF⟩ : ∃ F, F = Sc.fmtT (Sc.wOf n).toNat ts := ⟨_, rfl⟩
    rw [← hF] at HF hfl
    have hzf := wbsize F
    by_cases hlong : 4096 < F.length
    · have hsl := scan_long hlong
      have HS2 := hide (fun w' (hb : Below w.heap.size w w') => scan_any ⟨F.toArray⟩ w' (by rw [hzf]; unfold maxLen; omega) m ((hb.cell hml).trans hm) _ (hide (show Sc.scanRes (⟨F.toArray⟩ : ByteArray).data.toList = ([], 1, 0) by simpa using hsl)))
      generalize (⟨F.toArray⟩ : ByteArray) = FB at *
      rw [← hzf] at hlong hfl
      clear hsl hzf hF hsc
      generalize Sc.wOf n = wn at *
      go_enter Tryd.func5, Tryd.ntmps5
      go_wp2_with (first
        | (go_at_call 17; refine HAB.out.mono ?_; rintro e w1 ⟨rfl, hb1⟩)
        | (go_at_call_of 11 s; refine (HS.out _ hb1).mono ?_; rintro e w2 ⟨v, rfl, ho, hb2, -⟩; obtain ⟨va, vc, rfl⟩ := ho.shape; have HB2 := hide (hb1.trans (hb2.mono hb1.size)); clear ho hb2)
        | (go_at_call 19; refine (HW.out _).mono ?_; rintro e w3 ⟨rfl, rfl⟩)
        | (go_at_call 18; refine (HF.out _ HB2.out).mono ?_; rintro e w4 ⟨rfl, hb4⟩; have HB4 := hide (HB2.out.trans (hb4.mono HB2.out.size)); clear hb4)
        | (go_at_call_of 11 FB; refine (HS2.out _ HB4.out).mono ?_; rintro e w5 ⟨v, rfl, ho, hb5, -⟩; obtain ⟨va, vc, rfl⟩ := ho.shape; have HB5 := hide (HB4.out.trans (hb5.mono HB4.out.size)); clear ho hb5))
      go_ret
      exact ⟨rfl, HB5.out⟩
    · obtain ⟨us, hus, hkey⟩ := Sc.same_plain hsc (Sc.wOf n).toNat (by rw [← hF]; omega)
      rw [← hF] at hus
      have HS2 := hide (fun w' (hb : Below w.heap.size w w') => scan_any ⟨F.toArray⟩ w' (by rw [hzf]; unfold maxLen; omega) m ((hb.cell hml).trans hm) _ (hide (show Sc.scanRes (⟨F.toArray⟩ : ByteArray).data.toList = (us, 0, 0) by simpa using hus)))
      have HLK := hide (fun ao bo ac bc A B w' ha hb => like_true ao bo ac bc ts us A B w' ha hb hkey.symm (by omega))
      generalize (⟨F.toArray⟩ : ByteArray) = FB at *
      rw [← hzf] at hlong hfl
      have hlong' : ¬ (4096 : Int) < FB.size := by omega
      clear hus hzf hF hsc hkey
      generalize Sc.wOf n = wn at *
      go_enter Tryd.func5, Tryd.ntmps5
      go_wp2_with (first
        | (go_at_call 17; refine HAB.out.mono ?_; rintro e w1 ⟨rfl, hb1⟩)
        | (go_at_call_of 11 s; refine (HS.out _ hb1).mono ?_; rintro e w2 ⟨v, rfl, ho, hb2, -⟩; obtain ⟨va, vc, rfl⟩ := ho.shape; have HB2 := hide (hb1.trans (hb2.mono hb1.size)); have HO := hide ho; clear ho hb2)
        | (go_at_call 19; refine (HW.out _).mono ?_; rintro e w3 ⟨rfl, rfl⟩)
        | (go_at_call 18; refine (HF.out _ HB2.out).mono ?_; rintro e w4 ⟨rfl, hb4⟩; have HB4 := hide (HB2.out.trans (hb4.mono HB2.out.size)); have HO4 := hide (HO.out.below hb4); clear hb4)
        | (go_at_call_of 11 FB; refine (HS2.out _ HB4.out).mono ?_; rintro e w5 ⟨v, rfl, ho, hb5, -⟩; obtain ⟨ua, uc, rfl⟩ := ho.shape; have HB5 := hide (HB4.out.trans (hb5.mono HB4.out.size)); have HO5 := hide (HO4.out.below hb5); have HU := hide ho; clear ho hb5)
        | (go_at_call 20; refine (HLK.out _ _ _ _ _ _ _ HO5.out HU.out).mono ?_; rintro e w6 ⟨rfl, nn, rfl⟩))
      go_ret
      exact ⟨rfl, below_drewN HB5.out _⟩
  · have HF := hide (fun w' (hb : Below w.heap.size w w') => format_any s (Sc.wOf n) w' hs m ((hb.cell hml).trans hm) _ (hide (fmtD_bad hsc her n)))
    unfold fmtV at HF
    have hbe : (er == 0) = false := beq_eq_false_iff_ne.2 her
    clear her hsc
    generalize Sc.wOf n = wn at *
    go_enter Tryd.func5, Tryd.ntmps5
    go_wp2_with (first
      | (go_at_call 17; refine HAB.out.mono ?_; rintro e w1 ⟨rfl, hb1⟩)
      | (go_at_call_of 11 s; refine (HS.out _ hb1).mono ?_; rintro e w2 ⟨v, rfl, ho, hb2, -⟩; obtain ⟨va, vc, rfl⟩ := ho.shape; have HB2 := hide (hb1.trans (hb2.mono hb1.size)); clear ho hb2)
      | (go_at_call 19; refine (HW.out _).mono ?_; rintro e w3 ⟨rfl, rfl⟩)
      | (go_at_call 18; refine (HF.out _ HB2.out).mono ?_; rintro e w4 ⟨rfl, hb4⟩; have HB4 := hide (HB2.out.trans (hb4.mono HB2.out.size)); clear hb4))
    go_ret
    exact ⟨rfl, HB4.out⟩
end Go.Proofs.YtoieklacpkahbaaDoor
