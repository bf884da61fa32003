/- Walks: the program's Format. -/
import Derived.Test.YtigdfhcmhidhbaaDoorLayR
namespace Go.Proofs.YtigdfhcmhidhbaaDoor
open Go.RowKit
/-- What Format answers. -/
def fmtV (R : List UInt8 × Int × Int) : Value := .tuple #[.string ⟨R.1.toArray⟩, .int .i64 R.2.1, .int .i64 R.2.2]

theorem toks_of (ts : List Sc.Tok) (l : List UInt8) (pl : Int) (h : Sc.scanRes l = (ts, 0, pl)) : TOk (ts.map Sc.erase) ∧ TW (ts.map Sc.erase) := by
  obtain ⟨h1, h2, h3⟩ := Sc.scan_toks h
  refine ⟨⟨fun t ht => ?_, by rw [Sc.wt_erase]; omega⟩, fun t ht => ?_⟩
  · obtain ⟨u, hu, rfl⟩ := List.mem_map.1 ht
    have := h3 u hu
    exact ⟨this.2.2.1, fun hk => by rw [show (Sc.erase u).text = u.text from rfl, this.2.2.2.1 hk]; rfl⟩
  · obtain ⟨u, hu, rfl⟩ := List.mem_map.1 ht
    exact h3 u hu

set_option maxRecDepth 100000 in
set_option maxHeartbeats 4000000 in
theorem format_any (s : ByteArray) (W : Int) (w : World) (hs : s.size ≤ maxLen) (m : Int) (hm : w.cell? ⟨0, 0, none⟩ = some (.int .i64 m)) (R : List UInt8 × Int × Int) (HR : Hid (Sc.fmtD s.data.toList W = R)) :
    Calls Tryd.prog 18 #[.string s, .int .i64 W] w fun e w' => e = .returned (fmtV R) ∧ Below w.heap.size w w' := by
  by_cases hW : W < 1 ∨ 200 < W
  · have HX : Hid (R = ([], 10, 0)) := by rw [← HR.out]; unfold Sc.fmtD; rw [if_pos hW]; exact hide rfl
    clear HR
    rcases hW with hW | hW
    · go_enter Tryd.func18, Tryd.ntmps18
      go_wp2
      go_ret3
      exact ⟨by rw [HX.out]; rfl, Below.refl _ _⟩
    · have hW' : ¬ W < 1 := by omega
      go_enter Tryd.func18, Tryd.ntmps18
      go_wp2
      go_ret3
      exact ⟨by rw [HX.out]; rfl, Below.refl _ _⟩
  · have hW1 : 1 ≤ W := by omega
    have hW2 : W ≤ 200 := by omega
    have hR2 : Sc.fmtRes s.data.toList W.toNat = R := by rw [← HR.out]; unfold Sc.fmtD; rw [if_neg hW]
    unfold Sc.fmtRes at hR2
    have HSC := hide (scan_any s w hs m hm (Sc.scanRes s.data.toList) (hide rfl))
    obtain ⟨ts, er, pl, hsc⟩ : ∃ ts er pl, Sc.scanRes s.data.toList = (ts, er, pl) := ⟨_, _, _, rfl⟩
    rw [hsc] at HSC hR2
    simp only at HSC hR2
    by_cases her : er = 0
    · subst her
      simp only [if_true] at hR2
      have hps := Sc.parse_spec (Sc.els_of_scan hsc)
      obtain ⟨hto, htw⟩ := toks_of ts _ pl hsc
      obtain ⟨hwt, htl, -⟩ := Sc.scan_toks hsc
      unfold Sc.fmtT at hR2
      obtain ⟨es, hes⟩ : ∃ es, es = Sc.parse (ts.map Sc.erase) := ⟨_, rfl⟩
      rw [← hes] at hps hR2
      rw [← hps.1] at hto htw
      have hwe : Sc.wt (Sc.toksL es) ≤ 8192 := by rw [hps.1, Sc.wt_erase]; exact hwt
      have hle : (Sc.toksL es).length ≤ 4096 := by rw [hps.1, List.length_map]; exact htl
      obtain ⟨Wn, rfl⟩ : ∃ Wn : Nat, W = Wn := ⟨W.toNat, by omega⟩
      have HRE := hide (fun g cap B0 w' h' => readEls_any es hps.2 hto ts hps.1.symm g cap B0 w' h' htl)
      have HRW := hide (fun N x w' ao cap hk hv => row_any es (elemsW_any es hps.2 htw) hps.2 htw N x Wn [] 0 w' ao cap 1 false 0 0 0 rfl (by omega) hk hv (Nat.le_refl _) (fun _ _ _ => by omega) (by omega) (by omega) (by simp; omega) (by omega))
      by_cases h0 : ts = []
      · subst h0
        have hen : es = [] := Sc.toksL_nil hps.1
        subst hen
        have HX := hide hR2
        clear hR2 hps hto htw HRE HRW hes
        go_enter Tryd.func18, Tryd.ntmps18
        go_wp2_with (go_at_call 11; refine HSC.out.mono ?_; rintro e w1 ⟨v, rfl, ho, hb, -⟩; obtain ⟨va, vc, rfl⟩ := ho.shape)
        go_ret3
        exact ⟨by rw [← HX.out]; rfl, hb⟩
      · have hne : es ≠ [] := fun h => h0 (by
          rw [h] at hps
          exact List.map_eq_nil_iff.1 hps.1.symm)
        have hpos : 0 < ts.length := List.length_pos_iff.2 h0
        have hlb : ((ts.length : Int) == 0) = false := beq_eq_false_iff_ne.2 (by omega)
        obtain ⟨T, hTT⟩ : ∃ T, T = Sc.render (Sc.layL Wn es 0 0 0 false 0) [] := ⟨_, rfl⟩
        have hRT : (T ++ [10], (0 : Int), (0 : Int)) = R := by
          rw [← hR2, hTT]
          unfold Sc.layAll
          have hie : es.isEmpty = false := by cases es with
            | nil => exact absurd rfl hne
            | cons _ _ => rfl
          rw [hie, show ((Wn : Int)).toNat = Wn by omega, Sc.render_tl _ [10]]
          rfl
        have hTl : T.length ≤ 900000000 := by
          have := row_len Wn es htw 0 0 0 false (fun _ _ _ => by omega) (by omega)
          rw [← hTT] at this
          omega
        rw [← hTT] at HRW
        simp only [List.nil_append] at HRW
        have HX := hide hRT
        have HNL := hide (fun N x w' (c0 : Nat) (h' : Wk N x Wn T c0 w') => wnl 0 h' (by omega) (by omega))
        clear hR2 hps hto htw hes hRT hTT hne h0
        go_enter Tryd.func18, Tryd.ntmps18
        go_wp2_with (first
          | (go_at_call 11; refine HSC.out.mono ?_; rintro e w1 ⟨v, rfl, ho, hb, -⟩; obtain ⟨va, vc, rfl⟩ := ho.shape; obtain ⟨g, hg1, -, hg2, hg3, -⟩ := ho.at 0 hpos; subst hg1; have HO := hide ho; have HB := hide hb; clear ho hb)
          | fail)
        refine (HRE.out g vc w.heap.size _ (HO.out.below ((Below.refl _ _).alloc (Nat.le_refl _) _))).mono ?_
        rintro e w2 ⟨v, rfl, hv, hb2⟩
        obtain ⟨va, cap2, rfl, -⟩ := hv.shape
        have hs2 := hb2.size
        have hsa : (w1.alloc (.cells #[.pointer none, .slice none 0 0, .int .i64 Wn, .int .i64 0] 70)).heap.size = w1.heap.size + 1 := by simp
        have hx2 : w2.heap[w1.heap.size]? = some (.cells #[.pointer none, .slice none 0 0, .int .i64 Wn, .int .i64 0] 70 (0, 0)) := (hb2.block _ (by omega)).trans (heap_alloc_new w1 _)
        have HK2 : Hid (Wk w2.heap.size w1.heap.size Wn [] 0 w2) := hide ⟨Or.inl ⟨.slice none 0 0, hx2, World.ownsRow_nil _ _ _ _, by simp [Value.ownBlock]⟩, Nat.le_refl _, by omega⟩
        have HV2 := hide (hv.mono (A' := Ne w1.heap.size) (w' := w2) (Q' := ElsAt (Ne w1.heap.size) w2 es) (fun k hk _ => ⟨by unfold Ne; omega, rfl⟩) (fun cs hcs => ElsAt.mono (fun k hk _ => ⟨by unfold Ne; omega, rfl⟩) _ _ hcs))
        have hb1 := HB.out.size
        have HB2 := hide (HB.out.trans ((((Below.refl _ w1).alloc (Nat.le_refl _) _).trans (hb2.mono (by omega))).mono hb1))
        have hx3 : w1.heap.size < w2.heap.size := by omega
        clear hv hb2 hx2 HRE HO hsa
        go_wp2_with (first
          | (go_at_call 30; refine (HRW.out w2.heap.size w1.heap.size w2 va cap2 HK2.out HV2.out).mono ?_; rintro e w3 ⟨rfl, hk3, hf3⟩; have HK3 := hide hk3; have HF3 := hide hf3; clear hk3 hf3)
          | (go_at_call 32; refine (HNL.out _ _ _ _ HK3.out).mono ?_; rintro e w4 ⟨rfl, hk4, hf4⟩; have HK4 := hide hk4; have HF4 := hide (HF3.out.trans hf4); clear hk4 hf4)
          | (go_at_call 33; refine (string_any _ _ _ _ _ _ HK4.out.wr (by simp [Sc.nl])).mono ?_; rintro e w5 ⟨rfl, hb5⟩))
        go_ret3
        refine ⟨by rw [← HX.out]; rfl, ?_⟩
        exact HB2.out.trans ((HF4.out.fr.below hb1 (by omega)).trans (hb5.mono (by omega)))
    · have HX : Hid (R = ([], er, pl)) := by rw [← hR2, if_neg her]; exact hide rfl
      have hbe : (er == 0) = false := beq_eq_false_iff_ne.2 her
      clear hR2 her
      go_enter Tryd.func18, Tryd.ntmps18
      go_wp2_with (go_at_call 11; refine HSC.out.mono ?_; rintro e w1 ⟨v, rfl, ho, hb, -⟩; obtain ⟨va, vc, rfl⟩ := ho.shape)
      go_ret3
      exact ⟨by rw [HX.out]; rfl, hb⟩
end Go.Proofs.YtigdfhcmhidhbaaDoor
