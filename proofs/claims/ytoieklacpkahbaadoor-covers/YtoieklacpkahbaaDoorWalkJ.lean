/- Walks: Covers. -/
import Derived.Test.YtoieklacpkahbaaDoorWalkI
namespace Go.Proofs.YtoieklacpkahbaaDoor
open Go.RowKit

theorem scan_ok_cov (l : List UInt8) (ts : List Sc.Tok) (p : Int) (h : Sc.scanRes l = (ts, 0, p)) : l.length ≤ 4096 ∧ Sc.Cov l ts 0 l.length ∧ (Sc.listsGo ts []).1 = 0 := by
  unfold Sc.scanRes at h
  by_cases h1 : 4096 < l.length
  · rw [if_pos h1] at h; simp at h
  · rw [if_neg h1] at h
    by_cases h2 : 0 ≤ Sc.strangeAt l
    · rw [if_pos h2] at h; simp at h
    · rw [if_neg h2] at h
      by_cases h3 : (Sc.toksRes l).2.1 = 0
      · rw [if_neg (by simpa using h3)] at h
        by_cases h4 : (Sc.listsRes (Sc.toksRes l).1).1 = 0
        · rw [if_neg (by simpa using h4)] at h
          simp only [Prod.mk.injEq] at h
          obtain ⟨rfl, _, _⟩ := h
          exact ⟨by omega, Sc.toksRes_cov l h3, h4⟩
        · rw [if_pos h4] at h
          simp only [Prod.mk.injEq] at h
          exact absurd h.2.1 h4
      · rw [if_pos h3] at h
        simp only [Prod.mk.injEq] at h
        exact absurd h.2.1 h3
theorem bls_all {s : ByteArray} {a b : Nat} (h : Sc.Bls s.data.toList a b) : allBl (s.extract a b).data.toList = true := by
  unfold allBl
  rw [Lib.extract_data, List.all_eq_true]
  intro c hc
  obtain ⟨i, hi, rfl⟩ := List.mem_iff_getElem.1 hc
  rw [List.length_take, List.length_drop] at hi
  have h1 := h.2.1
  rw [List.getElem_take, List.getElem_drop]
  exact h.2.2 (a + i) (by omega) (by omega) (by omega)

theorem cut_run (s : ByteArray) (p n : Nat) (h : p + n ≤ s.size) (W : World) :
    (Instr.slice 9 (.string s) (some (.int .i64 (p : Int))) (some (.int .i64 ((p : Int) + (n : Int)))) none).run Tryd.prog W = .ok (.string (s.extract p (p + n))) W := by
  rw [run_slice_string W 9 s .i64 .i64 (p : Int) ((p : Int) + (n : Int)) Tryd.underlying9 (by omega) (by omega) (by omega), show ((p : Int) + (n : Int)).toNat = p + n by omega, Int.toNat_natCast]
theorem lists_step {t : Sc.Tok} {ts : List Sc.Tok} {st : List Int} (h : (Sc.listsGo (t :: ts) st).1 = 0) :
    (t.kind = 2 → st.length ≠ 32 ∧ (Sc.listsGo ts (st ++ [t.place])).1 = 0) ∧ (t.kind = 3 → st.length ≠ 0 ∧ (Sc.listsGo ts st.dropLast).1 = 0) ∧ (t.kind ≠ 2 → t.kind ≠ 3 → (Sc.listsGo ts st).1 = 0) := by
  rw [Sc.listsGo] at h
  refine ⟨fun h2 => ?_, fun h3 => ?_, fun h2 h3 => ?_⟩
  · rw [if_pos h2] at h
    by_cases h5 : st.length = 32
    · rw [if_pos h5] at h; simp at h
    · rw [if_neg h5] at h; exact ⟨h5, h⟩
  · rw [if_neg (by omega), if_pos h3] at h
    by_cases h5 : st.length = 0
    · rw [if_pos h5] at h; simp at h
    · rw [if_neg h5] at h; exact ⟨h5, h⟩
  · rw [if_neg h2, if_neg h3] at h
    by_cases h4 : t.kind = 4
    · rw [if_pos h4] at h
      by_cases h5 : Sc.leads t ts
      · rw [if_pos h5] at h; exact h
      · rw [if_neg h5] at h; simp at h
    · rw [if_neg h4] at h; exact h
theorem lists_end {st : List Int} (h : (Sc.listsGo [] st).1 = 0) : st = [] := by
  rw [Sc.listsGo] at h
  cases hl : st.getLast? with
  | none => exact List.getLast?_eq_none_iff.1 hl
  | some x => rw [hl] at h; simp at h
theorem blanks_true (s : ByteArray) (a b : Nat) (hs : s.size ≤ 4096) (h : allBl (s.extract a b).data.toList = true) (W : World) :
    Calls Tryd.prog 16 #[.string (s.extract a b)] W fun e w' => e = .returned (.bool true) ∧ w' = W := by
  have hz : (s.extract a b).size ≤ s.size := by rw [← Sc.lsize, Lib.extract_data, List.length_take, List.length_drop, Sc.lsize]; omega
  have := blanks_any (s.extract a b) W (by omega)
  rw [h] at this; exact this
theorem nil_eq (W : World) : (binOp .eql 22 (.slice none 0 0) (.slice none 0 0)).run Tryd.prog W = .ok (.bool true) W := by
  simp only [binOp]
  simp [Op.equal, Op.maxDepth, Lib.run_equalIn_slice_nil W 9999 22 37 none 0 0 0 0 Tryd.underlying22]

set_option maxRecDepth 20000 in
set_option maxHeartbeats 2000000 in
theorem covers_any (s : ByteArray) (w : World) (hs : s.size ≤ maxLen) (m : Int) (hm : w.cell? ⟨0, 0, none⟩ = some (.int .i64 m)) (hgl : 0 < w.heap.size) :
    Calls Tryd.prog 4 #[.string s] w fun e w' => e = .returned (.bool true) ∧ Below w.heap.size w w' := by
  have hz := Sc.lsize s
  obtain ⟨⟨ts, er, pl⟩, hR⟩ : ∃ R, Sc.scanRes s.data.toList = R := ⟨_, rfl⟩
  have HR := hide hR; clear hR
  by_cases her : er = 0
  · subst her
    have hsc := scan_ok_cov _ _ _ HR.out
    obtain ⟨h4, hcov, hli⟩ := hsc
    have hlen := hcov.pos.2
    have HCV := hide hcov
    have HLI := hide hli
    clear hcov hli
    unfold maxLen at hs
    go_enter Tryd.func4, Tryd.ntmps4
    go_wp2_with (first
      | (go_at_call 15; refine (reads_any _ m hm).mono ?_; rintro e w1 ⟨rfl, hb1⟩; have hm1 := (hb1.cell (p := ⟨0, 0, none⟩) hgl).trans hm)
      | (go_at_call 11; refine (scan_any s _ hs m hm1 _ HR).mono ?_; rintro e w2 ⟨v, rfl, hown, hb2, hnil⟩; clear hnil; obtain ⟨ao, cp, rfl⟩ := hown.shape))
    go_loopw [7, 8, 9] (fun x o i wr => ∃ (k a : Nat) (st : List Int), k ≤ ts.length ∧ st.length ≤ 32 ∧ a ≤ 4096 ∧ x = .int .i64 a ∧ o = .int .i64 st.length ∧ i = .int .i64 k ∧ Below w2.heap.size w2 wr ∧
      Hid (Sc.Cov s.data.toList (ts.drop k) a s.data.toList.length) ∧ Hid ((Sc.listsGo (ts.drop k) st).1 = 0)) (fun _ _ i _ => ts.length - (intOf i).toNat)
    case atStart => exact ⟨0, 0, [], by omega, by simp, by omega, rfl, rfl, rfl, Below.refl _ _, HCV, HLI⟩
    case round =>
      obtain ⟨k, a, st, g1, g2, g3, rfl, rfl, rfl, hbel, HC, HL⟩ := hrel
      by_cases hlt : k < ts.length
      · obtain ⟨g, hg1, _, hg3, hg4, hcap, c0, c1, c2, c3⟩ := hown.at k hlt
        subst hg1
        have cc := fun (a : Addr) (ha : a.block < w2.heap.size) => hbel.cell (p := a) ha
        have d0 := (cc ⟨g, k * 4, none⟩ hg4).trans c0
        have d1 := (cc ⟨g, k * 4 + 1, none⟩ hg4).trans c1
        have d2 := (cc ⟨g, k * 4 + 2, none⟩ hg4).trans c2
        have d3 := (cc ⟨g, k * 4 + 3, none⟩ hg4).trans c3
        clear cc c0 c1 c2 c3
        obtain ⟨⟨tk, tt, tp, tb⟩, ht⟩ : ∃ t, t = ts[k] := ⟨_, rfl⟩
        rw [← ht] at d0 d1 d2 d3
        simp only at d0 d1 d2 d3
        have hdr := List.drop_eq_getElem_cons hlt
        rw [← ht] at hdr
        have HC2 := HC.out
        have HL2 := HL.out
        rw [hdr] at HC2 HL2
        clear ht hdr HC HL
        obtain ⟨p, e1, hbls, hpos, hend, htx, hrest⟩ := HC2
        simp only at e1 hbls hpos hend htx hrest
        subst e1
        have hap := hbls.1
        have HBL := hide (bls_all hbls)
        have HREST := hide hrest
        have HL3 := hide HL2
        have hx : ((s.extract p (p + tt.length)).toList == tt) = true := by
          rw [Lib.extract_toList, show p + tt.length - p = tt.length by omega, ← htx]; simp
        clear htx hrest HL2 hbls
        rw [hz] at hend
        have hq1 : (tt == []) = false := by cases tt with | nil => simp at hpos | cons _ _ => rfl
        have hq1' : tt.isEmpty = false := by cases tt with | nil => simp at hpos | cons _ _ => rfl
        have hq2 : decide ((p : Int) < (a : Int)) = false := decide_eq_false (by omega)
        have hq3 : decide ((s.size : Int) < (p : Int) + (tt.length : Int)) = false := decide_eq_false (by omega)
        have hsl := cut_run s p tt.length (by omega)
        have HBC := hide (blanks_true s a p (by omega) HBL.out)
        have hls := lists_step HL3.out
        simp only at hls
        obtain ⟨hl2, hl3, hl4⟩ := hls
        clear HL3 HBL
        cases k2 : (tk == 2) with
        | true =>
          have hlx := hl2 (by simpa using k2)
          have h32 := hlx.1
          have HLX := hide hlx.2
          have k3 : (tk == 3) = false := by have : tk = 2 := by simpa using k2
                                            rw [this]; rfl
          clear hl2 hl3 hl4 hlx
          go_wp2_with fail
          go_quiet (fail)
          go_wp2_with (go_at_call 16; refine (HBC.out _).mono ?_; rintro e w3 ⟨rfl, hw3⟩; subst w3)
          go_roundw
          case rel => exact ⟨k + 1, p + tt.length, st ++ [(p : Int)], by omega, by simp; omega, by omega, by go_num, by simp, by go_num, below_drewN (hbel.alloc hbel.size _) _, HREST, HLX⟩
          case measure => simp [intOf]; omega
        | false =>
        cases k3 : (tk == 3) with
        | true =>
          have hlx := hl3 (by simpa using k3)
          have h00 := hlx.1
          have HLX := hide hlx.2
          clear hl2 hl3 hl4 hlx
          go_wp2_with fail
          go_quiet (fail)
          go_wp2_with (go_at_call 16; refine (HBC.out _).mono ?_; rintro e w3 ⟨rfl, hw3⟩; subst w3)
          go_roundw
          case rel => exact ⟨k + 1, p + tt.length, st.dropLast, by omega, by simp; omega, by omega, by go_num, by rw [List.length_dropLast]; go_num, by go_num, below_drewN (hbel.alloc hbel.size _) _, HREST, HLX⟩
          case measure => simp [intOf]; omega
        | false =>
          have HLX := hide (hl4 (by simpa using k2) (by simpa using k3))
          clear hl2 hl3 hl4
          go_wp2_with fail
          go_quiet (fail)
          go_wp2_with (go_at_call 16; refine (HBC.out _).mono ?_; rintro e w3 ⟨rfl, hw3⟩; subst w3)
          go_roundw
          case rel => exact ⟨k + 1, p + tt.length, st, by omega, by omega, by omega, by go_num, by rfl, by go_num, below_drewN (hbel.alloc hbel.size _) _, HREST, HLX⟩
          case measure => simp [intOf]; omega
      · have hd : ts.drop k = [] := List.drop_eq_nil_of_le (by omega)
        have HC2 := HC.out
        have HL2 := HL.out
        rw [hd] at HC2 HL2
        have hst := lists_end HL2
        subst hst
        have HC3 : Hid (Sc.Bls s.data.toList a s.size) := by rw [← hz]; exact HC2
        have hale := HC3.out.1
        have HBC := hide (blanks_true s a s.size (by omega) (bls_all HC3.out))
        clear HC2 HL2 hd HC HL
        go_wp2_with (go_at_call 16; refine (HBC.out _).mono ?_; rintro e w3 ⟨rfl, hw3⟩; subst w3)
        go_ret
        exact ⟨rfl, hb1.trans ((hb2.mono hb1.size).trans (hbel.mono (by have := hb1.size; have := hb2.size; omega)))⟩
  · have hne : (er != 0) = true := by simpa using her
    have hnl := nil_eq
    go_enter Tryd.func4, Tryd.ntmps4
    go_wp2_with (first
      | (go_at_call 15; refine (reads_any _ m hm).mono ?_; rintro e w1 ⟨rfl, hb1⟩; have hm1 := (hb1.cell (p := ⟨0, 0, none⟩) hgl).trans hm)
      | (go_at_call 11; refine (scan_any s _ hs m hm1 _ HR).mono ?_; rintro e w2 ⟨v, rfl, hown, hb2, hnil⟩; obtain rfl := hnil her))
    go_ret
    exact ⟨rfl, hb1.trans (hb2.mono hb1.size)⟩
end Go.Proofs.YtoieklacpkahbaaDoor
