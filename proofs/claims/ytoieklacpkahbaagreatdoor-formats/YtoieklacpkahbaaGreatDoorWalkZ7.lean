/- Walks: the second layout's Format. -/
import Derived.Test.YtoieklacpkahbaaGreatDoorWalkZ6
namespace Go.Proofs.YtoieklacpkahbaaGreatDoor
open Go.RowKit

set_option maxRecDepth 100000 in
set_option maxHeartbeats 40000000 in
theorem rformat_ok (s : ByteArray) (W : Nat) (hW1 : 1 ≤ W) (hW2 : W ≤ 200) (w : World) (hs : s.size ≤ maxLen) (ts : List Sc.Tok) (pl : Int) (hsc : Sc.scanRes s.data.toList = (ts, 0, pl)) :
    Calls Tryz.prog 8 #[.string s, .int .i64 W] w fun e w' => e = .returned (fmtV (Sc.fmtT W ts, 0, 0)) ∧ Below w.heap.size w w' := by
  have HSC := hide (rscan_any s w hs _ (hide hsc))
  have hps := Sc.parse_spec (Sc.els_of_scan hsc)
  obtain ⟨-, htw⟩ := toks_of ts _ pl hsc
  obtain ⟨hwt, hn, htt⟩ := Sc.scan_toks hsc
  have hts : ∀ t ∈ ts, t.text.length ≤ 4096 := fun t ht => (htt t ht).2.2.1
  unfold Sc.fmtT
  obtain ⟨es, hes⟩ : ∃ es, es = Sc.parse (ts.map Sc.erase) := ⟨_, rfl⟩
  rw [← hes] at hps ⊢
  rw [← hps.1] at htw
  have hwe : Sc.wt (Sc.toksL es) ≤ 8192 := by rw [hps.1, Sc.wt_erase]; exact hwt
  have hle : (Sc.toksL es).length = ts.length := by rw [hps.1, List.length_map]
  have hCC := elemsR_any W hW2 es hps.2 htw (by omega)
  obtain ⟨T, hTT⟩ : ∃ T, T = Sc.render (Sc.layL W es 0 0 0 false 0) [] := ⟨_, rfl⟩
  obtain ⟨R, hR⟩ : ∃ R, R = Sc.layAll W es := ⟨_, rfl⟩
  rw [← hR]
  have hRT : (ts = [] → R = [] ∧ T = []) ∧ (ts ≠ [] → R = T ++ [10]) := by
    constructor
    · intro h
      have : es = [] := Sc.toksL_nil (by rw [hps.1, h]; rfl)
      subst this
      exact ⟨hR, hTT⟩
    · intro h
      have hne : es ≠ [] := fun h' => h (by rw [h'] at hps; exact List.map_eq_nil_iff.1 hps.1.symm)
      rw [hR, hTT]
      unfold Sc.layAll
      have hie : es.isEmpty = false := by cases es with
        | nil => exact absurd rfl hne
        | cons _ _ => rfl
      rw [hie, Sc.render_tl _ [10]]
      rfl
  have HRT := hide hRT
  have HTT := hide hTT
  have HCC := hide hCC
  have HTE := hide htw
  have HWF := hide hps.2
  have HD := hide (show (ts.drop 0).map Sc.erase = Sc.toksL es ++ [] by rw [List.drop_zero, List.append_nil]; exact hps.1.symm)
  have HLE := hide hle
  have hel : es.length ≤ 4096 := by have := toksL_len es; omega
  have HTS := hide hts
  clear hCC htw hps hRT hTT hR hes hwt htt hts hle hsc
  go_enter Tryz.func8, Tryz.ntmps8
  go_wp2_with (go_at_call 24; refine HSC.out.mono ?_; rintro e w1 ⟨v, rfl, ho, hb⟩; obtain ⟨va, vc, rfl⟩ := ho.shape; have HO := hide ho; have HB := hide hb; clear ho hb)
  go_loopw [11, 12] (fun a k wr => ∃ (n : Nat) (sn : List UInt8) (Xn : Nat), n ≤ es.length ∧ k = .int .i64 ((Sc.toksL (es.take n)).length : Nat) ∧ a = .string ⟨sn.toArray⟩ ∧ Below w1.heap.size w1 wr ∧ w1.heap.size < wr.heap.size ∧ wr.cell? ⟨w1.heap.size, 0, none⟩ = some (.slice va ts.length vc) ∧ wr.cell? ⟨w1.heap.size, 1, none⟩ = some (.int .i64 W) ∧
    Sc.colB 0 sn ≤ Xn ∧ Xn + 2 * Sc.wt (Sc.toksL (es.drop n)) ≤ 100000 ∧ sn.length + 300000 * (Sc.toksL (es.drop n)).length ≤ 10000000000 ∧ Hid (sn ++ Sc.render (Sc.layL W (es.drop n) n (Sc.colB 0 sn) 0 false 0) [] = T)) (fun _ k _ => ts.length - (intOf k).toNat)
  case atStart =>
    refine ⟨0, [], 0, by omega, by simp [Sc.toksL], rfl, (Below.refl _ _).alloc (Nat.le_refl _) _, by simp, by simp, by simp, by simp [Sc.colB], by rw [List.drop_zero]; omega, by rw [List.drop_zero, HLE.out]; simp; omega, hide (by rw [List.drop_zero, HTT.out]; rfl)⟩
  case round =>
    obtain ⟨n, sn, Xn, h1, rfl, rfl, hbel, hsz2, z0, z1, hb1', hb3, hb4, HEQ⟩ := hrel
    have HOR := hide (HO.out.below hbel)
    have hz3 := bsize sn
    obtain ⟨kn, hkn⟩ : ∃ kn, kn = (Sc.toksL (es.take n)).length := ⟨_, rfl⟩
    rw [← hkn]
    by_cases hlt : n < es.length
    · have hmem : es[n] ∈ es := List.getElem_mem hlt
      have hTe := TW.mem hmem HTE.out
      have hwe' := WFL_mem hmem HWF.out
      have hdn := HD.out
      rw [toksL_split es n hlt, List.append_assoc] at hdn
      have hdk := Sc.tok_next hdn
      rw [List.append_assoc, Nat.zero_add, ← hkn] at hdk
      have hdk2 := Sc.tok_next hdk
      have hpos : 0 < es[n].toks.length := by obtain ⟨y, hy⟩ := es[n].toks_first; rw [hy]; simp
      have hkle : kn + es[n].toks.length ≤ ts.length := by
        have := congrArg List.length hdk
        rw [List.length_map, List.length_drop, List.length_append] at this
        omega
      have HBH := hide (fun W1 (hW : Owns W1 w.heap.size (.slice va ts.length vc) ts) => rbehind_any va vc ts w.heap.size W1 W kn hW)
      rw [Sc.isBt_cons hwe' hdk] at HBH
      have HEN := hide (fun W1 (hW : Owns W1 w.heap.size (.slice va ts.length vc) ts) => rend_any es[n] hwe' va vc ts w.heap.size W1 kn _ hW hn hdk)
      have HTL := hide (fun W1 (hW : Owns W1 w.heap.size (.slice va ts.length vc) ts) => rtail_any va vc ts w.heap.size W1 W (kn + es[n].toks.length) (0 : Nat) hW HTS.out)
      rw [Sc.tailT_eq (es := es.drop (n + 1)) (rest := []) 0 (WFL_drop HWF.out (n + 1)) (fun t r he => by cases he) hdk2] at HTL
      have HEL := hide (fun W1 (s' : List UInt8) (tl : Nat) (hW : Owns W1 w.heap.size (.slice va ts.length vc) ts) (hz : SzR es[n] s' tl) => HCC.out es[n] hmem va vc ts w.heap.size W1 kn _ s' tl hW hn HTS.out hdk hz)
      have hdr : Sc.toksL (es.drop n) = es[n].toks ++ Sc.toksL (es.drop (n + 1)) := by rw [List.drop_eq_getElem_cons hlt, Sc.toksL]
      have hwt : Sc.wt (Sc.toksL (es.drop n)) = Sc.wt es[n].toks + Sc.wt (Sc.toksL (es.drop (n + 1))) := by rw [hdr, Sc.wt_app]
      have hle2 : (Sc.toksL (es.drop n)).length = es[n].toks.length + (Sc.toksL (es.drop (n + 1))).length := by rw [hdr, List.length_append]
      have htle : Sc.tailOf (es.drop (n + 1)) 0 + es[n].toks.length ≤ 20000 := by
        cases hd1 : es.drop (n + 1) with
        | nil => simp only [Sc.tailOf]; omega
        | cons e' r =>
          have he' : e' ∈ es := List.mem_of_mem_drop (by rw [hd1]; exact List.mem_cons_self ..)
          have := (TW.mem he' HTE.out).first.2.2.1
          simp only [Sc.tailOf]
          split <;> omega
      obtain ⟨tl, htl⟩ : ∃ tl, tl = Sc.tailOf (es.drop (n + 1)) 0 := ⟨_, rfl⟩
      have HRE := hide (row_eq W es n hlt (Sc.colB 0 sn) 0 0 false sn)
      rw [← htl] at HTL HRE htle
      have hkn2 : (Sc.toksL (es.take (n + 1))).length = kn + es[n].toks.length := by
        rw [List.take_succ_eq_append_getElem hlt, toksL_app, List.length_append, hkn]; simp [Sc.toksL]
      have hkn0 : n = 0 ↔ kn = 0 := by
        constructor
        · rintro rfl; rw [hkn]; simp [Sc.toksL]
        · intro h
          have := toksL_len (es.take n)
          rw [List.length_take] at this
          omega
      have HSTEP : Hid (∀ G, Sc.gapOf es[n] n 0 false = G → G.length ≤ 100001 → Sc.colB (Sc.colB 0 sn) G ≤ Xn + 1 → SzR es[n] (sn ++ G) tl ∧ ∀ wz, Below w1.heap.size w1 wz → w1.heap.size < wz.heap.size → wz.cell? ⟨w1.heap.size, 0, none⟩ = some (.slice va ts.length vc) → wz.cell? ⟨w1.heap.size, 1, none⟩ = some (.int .i64 W) →
          ∃ (n' : Nat) (sn' : List UInt8) (Xn : Nat), n' ≤ es.length ∧ Value.int .i64 ((kn : Int) + (es[n].toks.length : Int)) = .int .i64 ((Sc.toksL (es.take n')).length : Nat) ∧ Value.string ⟨(sn ++ G ++ RL W es[n] (Sc.colB 0 (sn ++ G)) tl).toArray⟩ = .string ⟨sn'.toArray⟩ ∧ Below w1.heap.size w1 wz ∧ w1.heap.size < wz.heap.size ∧ wz.cell? ⟨w1.heap.size, 0, none⟩ = some (.slice va ts.length vc) ∧ wz.cell? ⟨w1.heap.size, 1, none⟩ = some (.int .i64 W) ∧
            Sc.colB 0 sn' ≤ Xn ∧ Xn + 2 * Sc.wt (Sc.toksL (es.drop n')) ≤ 100000 ∧ sn'.length + 300000 * (Sc.toksL (es.drop n')).length ≤ 10000000000 ∧ Hid (sn' ++ Sc.render (Sc.layL W (es.drop n') n' (Sc.colB 0 sn') 0 false 0) [] = T)) := by
        refine hide (fun G hG hGl hGc => ?_)
        obtain ⟨p1, p2⟩ := row_cap W es[n] hTe (Sc.colB 0 sn) G tl hGl (by omega)
        rw [List.length_append] at p2
        rw [Sc.colB_app 0 sn G]
        refine ⟨⟨by rw [Sc.colB_app]; omega, by rw [List.length_append]; omega, htle⟩, fun wz q1 q2 q3 q4 => ⟨n + 1, _, Xn + 2 * Sc.wt es[n].toks, by omega, by rw [hkn2]; simp, rfl, q1, q2, q3, q4, ?_, by omega, by simp only [List.length_append]; omega, hide ?_⟩⟩
        · rw [Sc.colB_app, Sc.colB_app]; omega
        · obtain ⟨r1, _⟩ := HRE.out G hG
          rw [Sc.colB_app 0 (sn ++ G), Sc.colB_app 0 sn G, ← r1]
          exact HEQ.out
      have hsn4 : sn.length ≤ 10000000000 := by omega
      clear hdr HRE hwt hle2 hTe htl hdk hdk2 hdn hkn2 hwe' hmem hkn
      by_cases h0 : n = 0
      · have hk0 : kn = 0 := hkn0.1 h0
        have hkb : ¬ (0 : Int) < kn := by omega
        obtain ⟨hS, hZ⟩ := HSTEP.out [] (by unfold Sc.gapOf; rw [if_pos h0]) (by simp) (by rw [Sc.colB_nil]; omega)
        rw [List.append_nil] at hS hZ
        have HZ := hide hZ
        have HE2 := hide (fun W1 hW => HEL.out W1 sn tl hW hS)
        clear hS hZ HSTEP h0 hkn0 hk0
        generalize es[n].isB = ib at HBH
        go_wp2_with (first
          | (go_at_call 25; refine (HBH.out _ HOR.out).mono ?_; rintro e w2 ⟨rfl, hb8⟩; have HB8 := hide (hbel.trans (hb8.mono (Nat.le_of_lt hsz2))); have y0 := (hb8.cell (p := ⟨w1.heap.size, 0, none⟩) hsz2).trans z0; have y1 := (hb8.cell (p := ⟨w1.heap.size, 1, none⟩) hsz2).trans z1; have hsz3 : w1.heap.size < w2.heap.size := Nat.lt_of_lt_of_le hsz2 hb8.size; have HOR2 := hide (HOR.out.below hb8); clear hb8)
          | (go_at_call 27; refine (HEN.out _ HOR2.out).mono ?_; rintro e w3 ⟨rfl, hw3⟩; subst w3))
        go_region_with (first
          | (go_at_call 29; refine (HTL.out _ (HOR2.out.below (Below.drew (Below.refl _ _)))).mono ?_; rintro e1 w3 ⟨rfl, hb9⟩; have HB9 := hide hb9; have x0 := (hb9.cell (p := ⟨w1.heap.size, 0, none⟩) hsz3).trans y0; have x1 := (hb9.cell (p := ⟨w1.heap.size, 1, none⟩) hsz3).trans y1; have hsz4 : w1.heap.size < w3.heap.size := Nat.lt_of_lt_of_le hsz3 hb9.size; have HOR3 := hide ((HOR2.out.below (Below.drew (Below.refl _ _))).below hb9); clear hb9)
          | (go_at_call 28; refine (HE2.out _ HOR3.out).mono ?_; rintro e1 w4 ⟨rfl, hb10⟩; have HB10 := hide hb10; clear hb10))
        all_goals
          go_wp2
          go_roundw
          case rel => exact HZ.out w4 (HB8.out.trans ((((Below.drew (Below.refl _ w2)).trans HB9.out).trans (HB10.out.mono HB9.out.size)).mono (Nat.le_of_lt hsz3))) (Nat.lt_of_lt_of_le hsz4 HB10.out.size) ((HB10.out.cell (p := ⟨w1.heap.size, 0, none⟩) hsz4).trans x0) ((HB10.out.cell (p := ⟨w1.heap.size, 1, none⟩) hsz4).trans x1)
          case measure => simp [intOf]; omega
      · have hk0 : ¬ kn = 0 := fun h => h0 (hkn0.2 h)
        have hkb : (0 : Int) < kn := by omega
        have hgen : Sc.gapOf es[n] n 0 false = if es[n].isB then [32] else Sc.nl 0 := by unfold Sc.gapOf; rw [if_neg h0]; simp
        cases hib : es[n].isB with
        | true =>
          rw [hib] at HBH
          obtain ⟨hS, hZ⟩ := HSTEP.out [32] (by rw [hgen, hib, if_pos rfl]) (by simp) (by rw [colB_one]; omega)
          have HZ := hide hZ
          have HE2 := hide (fun W1 hW => HEL.out W1 (sn ++ [32]) tl hW hS)
          have hq32 : (⟨sn.toArray⟩ : ByteArray) ++ ⟨#[32]⟩ = ⟨(sn ++ [32]).toArray⟩ := bapp1 sn 32
          clear hS hZ HSTEP h0 hgen hib hkn0 hk0
          generalize (⟨(sn ++ [32] ++ RL W es[n] (Sc.colB 0 (sn ++ [32])) tl).toArray⟩ : ByteArray) = rx at HE2 HZ
          generalize (⟨(sn ++ [32]).toArray⟩ : ByteArray) = sx at hq32 HE2
          go_wp2_with (first
            | (go_at_call 25; refine (HBH.out _ HOR.out).mono ?_; rintro e w2 ⟨rfl, hb8⟩; have HB8 := hide (hbel.trans (hb8.mono (Nat.le_of_lt hsz2))); have y0 := (hb8.cell (p := ⟨w1.heap.size, 0, none⟩) hsz2).trans z0; have y1 := (hb8.cell (p := ⟨w1.heap.size, 1, none⟩) hsz2).trans z1; have hsz3 : w1.heap.size < w2.heap.size := Nat.lt_of_lt_of_le hsz2 hb8.size; have HOR2 := hide (HOR.out.below hb8); clear hb8)
            | (go_at_call 27; refine (HEN.out _ HOR2.out).mono ?_; rintro e w3 ⟨rfl, hw3⟩; subst w3))
          go_region_with (first
            | (go_at_call 29; refine (HTL.out _ (HOR2.out.below (Below.drew (Below.refl _ _)))).mono ?_; rintro e1 w3 ⟨rfl, hb9⟩; have HB9 := hide hb9; have x0 := (hb9.cell (p := ⟨w1.heap.size, 0, none⟩) hsz3).trans y0; have x1 := (hb9.cell (p := ⟨w1.heap.size, 1, none⟩) hsz3).trans y1; have hsz4 : w1.heap.size < w3.heap.size := Nat.lt_of_lt_of_le hsz3 hb9.size; have HOR3 := hide ((HOR2.out.below (Below.drew (Below.refl _ _))).below hb9); clear hb9)
            | (go_at_call 28; refine (HE2.out _ HOR3.out).mono ?_; rintro e1 w4 ⟨rfl, hb10⟩; have HB10 := hide hb10; clear hb10))
          all_goals
            go_wp2
            go_roundw
            case rel => exact HZ.out w4 (HB8.out.trans ((((Below.drew (Below.refl _ w2)).trans HB9.out).trans (HB10.out.mono HB9.out.size)).mono (Nat.le_of_lt hsz3))) (Nat.lt_of_lt_of_le hsz4 HB10.out.size) ((HB10.out.cell (p := ⟨w1.heap.size, 0, none⟩) hsz4).trans x0) ((HB10.out.cell (p := ⟨w1.heap.size, 1, none⟩) hsz4).trans x1)
            case measure => simp [intOf]; omega
        | false =>
          rw [hib] at HBH
          obtain ⟨hS, hZ⟩ := HSTEP.out (Sc.nl 0) (by rw [hgen, hib]; exact if_neg (by simp)) (by simp [Sc.nl]) (by rw [Sc.colB_nl]; omega)
          have HZ := hide hZ
          have HE2 := hide (fun W1 hW => HEL.out W1 (sn ++ Sc.nl 0) tl hW hS)
          have HLN := hide (fun W1 => line_any sn 0 W1 (by omega) (by omega))
          rw [show (((0 : Nat)) : Int) = 0 from rfl] at HLN
          clear hS hZ HSTEP h0 hgen hib hkn0 hk0
          generalize (⟨(sn ++ Sc.nl 0 ++ RL W es[n] (Sc.colB 0 (sn ++ Sc.nl 0)) tl).toArray⟩ : ByteArray) = rx at HE2 HZ
          generalize (⟨(sn ++ Sc.nl 0).toArray⟩ : ByteArray) = sx at HLN HE2
          go_wp2_with (first
            | (go_at_call 25; refine (HBH.out _ HOR.out).mono ?_; rintro e w2 ⟨rfl, hb8⟩; have HB8 := hide (hbel.trans (hb8.mono (Nat.le_of_lt hsz2))); have y0 := (hb8.cell (p := ⟨w1.heap.size, 0, none⟩) hsz2).trans z0; have y1 := (hb8.cell (p := ⟨w1.heap.size, 1, none⟩) hsz2).trans z1; have hsz3 : w1.heap.size < w2.heap.size := Nat.lt_of_lt_of_le hsz2 hb8.size; have HOR2 := hide (HOR.out.below hb8); clear hb8)
            | (go_at_call 26; refine (HLN.out _).mono ?_; rintro e w5 ⟨rfl, hb5⟩; have HB5 := hide (HB8.out.trans (hb5.mono (Nat.le_of_lt hsz3))); have v0 := (hb5.cell (p := ⟨w1.heap.size, 0, none⟩) hsz3).trans y0; have v1 := (hb5.cell (p := ⟨w1.heap.size, 1, none⟩) hsz3).trans y1; have hsz5 : w1.heap.size < w5.heap.size := Nat.lt_of_lt_of_le hsz3 hb5.size; have HOR5 := hide (HOR2.out.below hb5); clear hb5)
            | (go_at_call 27; refine (HEN.out _ HOR5.out).mono ?_; rintro e w3 ⟨rfl, hw3⟩; subst w3))
          go_region_with (first
            | (go_at_call 29; refine (HTL.out _ (HOR5.out.below (Below.drew (Below.refl _ _)))).mono ?_; rintro e1 w3 ⟨rfl, hb9⟩; have HB9 := hide hb9; have x0 := (hb9.cell (p := ⟨w1.heap.size, 0, none⟩) hsz5).trans v0; have x1 := (hb9.cell (p := ⟨w1.heap.size, 1, none⟩) hsz5).trans v1; have hsz4 : w1.heap.size < w3.heap.size := Nat.lt_of_lt_of_le hsz5 hb9.size; have HOR3 := hide ((HOR5.out.below (Below.drew (Below.refl _ _))).below hb9); clear hb9)
            | (go_at_call 28; refine (HE2.out _ HOR3.out).mono ?_; rintro e1 w4 ⟨rfl, hb10⟩; have HB10 := hide hb10; clear hb10))
          all_goals
            go_wp2
            go_roundw
            case rel => exact HZ.out w4 (HB5.out.trans ((((Below.drew (Below.refl _ w5)).trans HB9.out).trans (HB10.out.mono HB9.out.size)).mono (Nat.le_of_lt hsz5))) (Nat.lt_of_lt_of_le hsz4 HB10.out.size) ((HB10.out.cell (p := ⟨w1.heap.size, 0, none⟩) hsz4).trans x0) ((HB10.out.cell (p := ⟨w1.heap.size, 1, none⟩) hsz4).trans x1)
            case measure => simp [intOf]; omega
    · have hne : n = es.length := by omega
      subst hne
      rw [List.take_length, HLE.out] at hkn
      subst hkn
      have hsn := HEQ.out
      rw [List.drop_length, Sc.layL, Sc.render, List.append_nil] at hsn
      have hsn4 : sn.length ≤ 10000000000 := by omega
      have HLN := hide (fun W1 => line_any sn 0 W1 (by omega) (by omega))
      rw [show (((0 : Nat)) : Int) = 0 from rfl] at HLN
      have HB1 := hide (HB.out.trans (hbel.mono HB.out.size))
      by_cases ht0 : ts = []
      · subst ht0
        have HX : Hid ((⟨sn.toArray⟩ : ByteArray) = ⟨R.toArray⟩) := by rw [(HRT.out.1 rfl).1, hsn, (HRT.out.1 rfl).2]; exact hide rfl
        clear hsn
        go_wp2
        go_ret3
        exact ⟨by unfold fmtV; rw [← HX.out]; rfl, HB1.out⟩
      · have hpos : (0 : Int) < ts.length := by have := List.length_pos_iff.2 ht0; omega
        have HX : Hid ((⟨(sn ++ Sc.nl 0).toArray⟩ : ByteArray) = ⟨R.toArray⟩) := by rw [HRT.out.2 ht0, hsn]; exact hide rfl
        clear hsn ht0
        generalize (⟨(sn ++ Sc.nl 0).toArray⟩ : ByteArray) = sx at HLN HX
        go_wp2_with (go_at_call 26; refine (HLN.out _).mono ?_; rintro e w5 ⟨rfl, hb5⟩; have HB5 := hide (HB1.out.trans (hb5.mono HB1.out.size)); clear hb5)
        go_ret3
        exact ⟨by unfold fmtV; rw [← HX.out]; rfl, HB5.out⟩

set_option maxRecDepth 100000 in
set_option maxHeartbeats 4000000 in
theorem rformat_any (s : ByteArray) (W : Int) (w : World) (hs : s.size ≤ maxLen) (R : List UInt8 × Int × Int) (HR : Hid (Sc.fmtD s.data.toList W = R)) :
    Calls Tryz.prog 8 #[.string s, .int .i64 W] w fun e w' => e = .returned (fmtV R) ∧ Below w.heap.size w w' := by
  by_cases hW : W < 1 ∨ 200 < W
  · have HX : Hid (R = ([], 10, 0)) := by rw [← HR.out]; unfold Sc.fmtD; rw [if_pos hW]; exact hide rfl
    clear HR
    rcases hW with hW | hW
    · go_enter Tryz.func8, Tryz.ntmps8
      go_wp2
      go_ret3
      exact ⟨by rw [HX.out]; rfl, Below.refl _ _⟩
    · have hW' : ¬ W < 1 := by omega
      go_enter Tryz.func8, Tryz.ntmps8
      go_wp2
      go_ret3
      exact ⟨by rw [HX.out]; rfl, Below.refl _ _⟩
  · have hR2 : Sc.fmtRes s.data.toList W.toNat = R := by rw [← HR.out]; unfold Sc.fmtD; rw [if_neg hW]
    unfold Sc.fmtRes at hR2
    obtain ⟨ts, er, pl, hsc⟩ : ∃ ts er pl, Sc.scanRes s.data.toList = (ts, er, pl) := ⟨_, _, _, rfl⟩
    rw [hsc] at hR2
    simp only at hR2
    obtain ⟨Wn, rfl⟩ : ∃ Wn : Nat, W = Wn := ⟨W.toNat, by omega⟩
    by_cases her : er = 0
    · subst her
      simp only [if_true, Int.toNat_natCast] at hR2
      rw [← hR2]
      exact rformat_ok s Wn (by omega) (by omega) w hs ts pl hsc
    · have HX : Hid (R = ([], er, pl)) := by rw [← hR2, if_neg her]; exact hide rfl
      have HSC := hide (rscan_any s w hs _ (hide hsc))
      have hbe : (er == 0) = false := beq_eq_false_iff_ne.2 her
      clear hR2 her hsc HR
      go_enter Tryz.func8, Tryz.ntmps8
      go_wp2_with (go_at_call 24; refine HSC.out.mono ?_; rintro e w1 ⟨v, rfl, ho, hb⟩; obtain ⟨va, vc, rfl⟩ := ho.shape)
      go_ret3
      exact ⟨by rw [HX.out]; rfl, hb⟩
end Go.Proofs.YtoieklacpkahbaaGreatDoor
