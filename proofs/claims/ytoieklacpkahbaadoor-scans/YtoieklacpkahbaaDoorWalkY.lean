/- Walks: looks. -/
/- Walks: Scans. -/
import Derived.Test.YtoieklacpkahbaaDoorWalkW
import Derived.Test.YtoieklacpkahbaaDoorWalkJ
namespace Go.Proofs.YtoieklacpkahbaaDoor
open Go.RowKit

theorem Fill.at {w : World} {ao : Option Addr} {n cap K : Nat} (h : Fill w (.slice ao n cap) K) (i : Nat) (hi : i < n) : ∃ g, ao = some ⟨g, 0, none⟩ ∧ g < w.heap.size ∧
    w.cell? ⟨g, i * 4, none⟩ = some (.int .i64 (-1 - (K : Int))) ∧ w.cell? ⟨g, i * 4 + 1, none⟩ = some (.string ⟨#[]⟩) ∧ w.cell? ⟨g, i * 4 + 2, none⟩ = some (.int .i64 0) ∧ w.cell? ⟨g, i * 4 + 3, none⟩ = some (.bool false) := by
  obtain ⟨ao', n', cap', e, _, h2⟩ := h
  injection e with e1 e2 e3
  subst e1 e2 e3
  rcases h2 with ⟨_, h0⟩ | ⟨g, rfl, ⟨cur, h3⟩, h4⟩
  · omega
  · have hg : (marks n K)[i]'(by rw [marks_len]; exact hi) = mkTok K := by simp [marks]
    have key : ∀ j, j < 4 → w.cell? ⟨g, i * 4 + j, none⟩ = (mkTok K).cells[j]? := by
      intro j hj
      rw [h4 (i * 4 + j) (by omega), Sc.tcells_get _ _ _ (by rw [marks_len]; exact hi) hj, hg]
    exact ⟨g, rfl, lt_of_heap h3, key 0 (by omega), key 1 (by omega), key 2 (by omega), key 3 (by omega)⟩
theorem Fill.shape {w : World} {lv : Value} {K : Nat} (h : Fill w lv K) : ∃ ao n cap, lv = .slice ao n cap ∧ n ≤ 4200 := by
  obtain ⟨ao, n, cap, e, h1, _⟩ := h
  exact ⟨ao, n, cap, e, h1⟩
theorem Bk.at {w : World} {B bk : Nat} {tso : Option Addr} {m tc : Nat} {es : List (Value × Nat)} (h : Bk w B bk (.slice tso m tc) es) (i : Nat) (hi : i < es.length) : ∃ g, tso = some ⟨g, 0, none⟩ ∧ g < w.heap.size ∧ es.length ≤ tc ∧
    w.cell? ⟨g, i * 2, none⟩ = some es[i].1 ∧ w.cell? ⟨g, i * 2 + 1, none⟩ = some (.int .i64 (es[i].2 : Int)) := by
  have ho := h.own
  rcases ho.2 with ⟨e, h0⟩ | ⟨g, cap, cur, e, _, h3, h4, _⟩
  · omega
  · injection e with e1 e2 e3
    subst e1 e2 e3
    have hc := fun j (hj : j < es.length * 2) => World.ownsRow.cellAt ho j hj
    have hg := ecells_get es i hi
    exact ⟨g, rfl, lt_of_heap h3, h4, (hc _ (by omega)).trans hg.1, (hc _ (by omega)).trans hg.2⟩

set_option maxRecDepth 20000 in
set_option maxHeartbeats 4000000 in
theorem looks_any (B bk : Nat) (tv : Value) (es : List (Value × Nat)) (w : World) (hbk : Bk w B bk tv es) (hes : es.length ≤ 20) :
    Calls Tryd.prog 14 #[.pointer (some ⟨bk, 0, none⟩)] w fun e w' => e = .returned (.bool true) ∧ Below w.heap.size w w' := by
  obtain ⟨tso, tc, htv⟩ := row_shape hbk.own
  subst htv
  have hblt := lt_of_heap hbk.block
  obtain ⟨b0, -, b1, b2⟩ := bk_cell hbk.block
  go_enter Tryd.func14, Tryd.ntmps14
  go_wp2
  go_loopw [3] (fun x wr => ∃ i : Nat, i ≤ es.length ∧ x = .int .i64 i ∧ Below w.heap.size w wr) (fun x _ => es.length - (intOf x).toNat)
  case atStart => exact ⟨0, by omega, rfl, Below.refl _ _⟩
  case round =>
    obtain ⟨i, h1, rfl, hbel⟩ := hrel
    have cc := fun (a : Addr) (ha : a.block < w.heap.size) => hbel.cell (p := a) ha
    have d0 := (cc ⟨bk, 0, none⟩ hblt).trans b0
    have d1 := (cc ⟨bk, 1, none⟩ hblt).trans b1
    have d2 := (cc ⟨bk, 2, none⟩ hblt).trans b2
    by_cases hil : i < es.length
    · obtain ⟨gt, hg1, hg2, hg3, e0, e1⟩ := hbk.at i hil
      subst hg1
      have f0 := (cc ⟨gt, i * 2, none⟩ hg2).trans e0
      have f1 := (cc ⟨gt, i * 2 + 1, none⟩ hg2).trans e1
      have hfil := hbk.fill es[i] (List.getElem_mem hil)
      have hfew := hbk.few es[i] (List.getElem_mem hil)
      obtain ⟨ao, n, cap, hlv, hn4⟩ := hfil.shape
      rw [hlv] at f0 hfil
      generalize es[i].2 = K at f1 hfil hfew
      have HF := hide hfil
      clear hfil hlv e0 e1 cc
      have hsz := hbel.size
      go_wp2
      go_loopw [5] (fun x ww => ∃ k : Nat, k ≤ n ∧ x = .int .i64 k ∧ Below w.heap.size w ww ∧ ww.cell? ⟨wr.heap.size, 0, none⟩ = some (.int .i64 (-1 - (K : Int))) ∧ ww.cell? ⟨wr.heap.size, 1, none⟩ = some (.string ⟨#[]⟩) ∧
        ww.cell? ⟨wr.heap.size, 2, none⟩ = some (.int .i64 0) ∧ ww.cell? ⟨wr.heap.size, 3, none⟩ = some (.bool false)) (fun x _ => n - (intOf x).toNat)
      case atStart => exact ⟨0, by omega, rfl, hbel.alloc hsz _, by simp, by simp, by simp, by simp⟩
      case round =>
        obtain ⟨k, k1, rfl, hb2, m0, m1, m2, m3⟩ := hrel
        have c2 := fun (a : Addr) (ha : a.block < w.heap.size) => hb2.cell (p := a) ha
        have x0 := (c2 ⟨bk, 0, none⟩ hblt).trans b0
        have x1 := (c2 ⟨gt, i * 2, none⟩ hg2).trans (((hbel.cell (p := ⟨gt, i * 2, none⟩) hg2).symm).trans f0)
        by_cases hkl : k < n
        · obtain ⟨g, hg4, hg5, y0, y1, y2, y3⟩ := HF.out.at k hkl
          subst hg4
          have z0 := (c2 ⟨g, k * 4, none⟩ hg5).trans y0
          have z1 := (c2 ⟨g, k * 4 + 1, none⟩ hg5).trans y1
          have z2 := (c2 ⟨g, k * 4 + 2, none⟩ hg5).trans y2
          have z3 := (c2 ⟨g, k * 4 + 3, none⟩ hg5).trans y3
          clear c2 y0 y1 y2 y3
          go_wp2
          go_quiet (fail)
          go_wp2
          go_roundw
          case rel => exact ⟨k + 1, by omega, by go_num, below_drewN hb2 _, m0, m1, m2, m3⟩
          case measure => simp [intOf]; omega
        · clear c2
          go_wp2
          go_roundw
          case rel => exact ⟨i + 1, by omega, by go_num, hb2⟩
          case measure => simp [intOf]; omega
    · clear cc
      go_wp2
      go_loopw [6] (fun x ww => x = .int .i64 0 ∧ Below w.heap.size w ww) (fun _ _ => 0)
      case atStart => exact ⟨rfl, hbel⟩
      case round =>
        obtain ⟨rfl, hb2⟩ := hrel
        have c2 := fun (a : Addr) (ha : a.block < w.heap.size) => hb2.cell (p := a) ha
        have x1 := (c2 ⟨bk, 1, none⟩ hblt).trans b1
        clear c2
        go_wp2
        go_loopw [9] (fun x ww => x = .int .i64 0 ∧ Below w.heap.size w ww) (fun _ _ => 0)
        case atStart => exact ⟨rfl, hb2⟩
        case round =>
          obtain ⟨rfl, hb3⟩ := hrel
          have c3 := fun (a : Addr) (ha : a.block < w.heap.size) => hb3.cell (p := a) ha
          have x2 := (c3 ⟨bk, 2, none⟩ hblt).trans b2
          clear c3
          go_wp2
          go_ret
          exact ⟨rfl, hb3⟩
end Go.Proofs.YtoieklacpkahbaaDoor
namespace Go.Proofs.YtoieklacpkahbaaDoor
open Go.RowKit

theorem scan_nil (l : List UInt8) (ts : List Sc.Tok) (er pl : Int) (h : Sc.scanRes l = (ts, er, pl)) (h0 : er ≠ 0) : ts = [] := by
  unfold Sc.scanRes at h
  split at h
  · simp only [Prod.mk.injEq] at h; exact h.1.symm
  · split at h
    · simp only [Prod.mk.injEq] at h; exact h.1.symm
    · split at h
      · simp only [Prod.mk.injEq] at h; exact h.1.symm
      · split at h
        · simp only [Prod.mk.injEq] at h; exact h.1.symm
        · simp only [Prod.mk.injEq] at h; exact absurd h.2.1.symm h0
theorem scan_len (l : List UInt8) : (Sc.scanRes l).1.length ≤ 4096 := by
  cases h : Sc.scanRes l with
  | mk ts r =>
    obtain ⟨er, pl⟩ := r
    by_cases h0 : er = 0
    · subst h0
      have := scan_ok_cov l ts pl h
      have h2 := this.2.1.pos.2
      simp only
      omega
    · rw [scan_nil l ts er pl h h0]; simp
theorem nil_ne (W : World) : (binOp .neq 22 (.slice none 0 0) (.slice none 0 0)).run Tryd.prog W = .ok (.bool false) W :=
  run_neq_slice_nil_any W 22 37 none 0 0 0 0 Tryd.underlying22

set_option maxRecDepth 20000 in
set_option maxHeartbeats 4000000 in
theorem scans_any (s : ByteArray) (w : World) (hs : s.size ≤ maxLen) (m : Int) (hm : w.cell? ⟨0, 0, none⟩ = some (.int .i64 m)) (hgl : 0 < w.heap.size) :
    Calls Tryd.prog 3 #[.string s] w fun e w' => e = .returned (.bool true) ∧ Below w.heap.size w w' := by
  obtain ⟨⟨ts, er, pl⟩, hR⟩ : ∃ R, Sc.scanRes s.data.toList = R := ⟨_, rfl⟩
  have hlen := scan_len s.data.toList
  rw [hR] at hlen
  simp only at hlen
  have HR := hide hR; clear hR
  by_cases her : er = 0
  · subst her
    go_enter Tryd.func3, Tryd.ntmps3
    go_wp2_with (go_at_call 10; refine (rscan_any s _ hs _ HR).mono ?_; rintro e w1 ⟨wv, rfl, how, hb1⟩; obtain ⟨wo, wc, rfl⟩ := how.shape)
    have hm1 := (hb1.cell (p := ⟨0, 0, none⟩) hgl).trans hm
    have s1 := hb1.size
    go_wp2_with fail
    refine (scan_any s _ hs m hm1 _ HR).mono ?_
    rintro e w2 ⟨fv, rfl, hof, hb2, hnf⟩
    clear hnf
    obtain ⟨fo, fc, rfl⟩ := hof.shape
    have hm2 := (hb2.cell (p := ⟨0, 0, none⟩) (Nat.lt_of_lt_of_le hgl s1)).trans hm1
    have s2 := hb2.size
    go_wp2_with fail
    refine (scan_any s _ hs m hm2 _ HR).mono ?_
    rintro e w3 ⟨av, rfl, hoa, hb3, hna⟩
    clear hna
    obtain ⟨aa, ac, rfl⟩ := hoa.shape
    have s3 := hb3.size
    have hof3 := hof.below hb3
    have how3 := (how.below hb2).below hb3
    go_wp2_with fail
    refine (same_any _ _ _ _ ts _ _ _ hof3 how3 hlen).mono ?_
    rintro e w4 ⟨rfl, hb4⟩
    have s4 := hb4.size
    go_wp2_with fail
    refine (same_any _ _ _ _ ts _ _ _ (hoa.below hb4) (how3.below hb4) hlen).mono ?_
    rintro e w5 ⟨rfl, hb5⟩
    have s5 := hb5.size
    go_wp2_with fail
    have hbk6 : Bk (w5.alloc (.cells #[.slice none 0 0, .slice none 0 0, .slice none 0 0] 32)) w.heap.size w5.heap.size (.slice none 0 0) [] :=
      ⟨by omega, heap_alloc_new w5 _, World.ownsRow_nil _ _ _ _, fun e he => by simp at he, fun e he => by simp at he⟩
    have hof6 : Owns (w5.alloc (.cells #[.slice none 0 0, .slice none 0 0, .slice none 0 0] 32)) w.heap.size (.slice fo ts.length fc) ts := World.ownsRow.alloc (((hof3.below hb4).below hb5).base (by omega)) _
    have hoa6 : Owns (w5.alloc (.cells #[.slice none 0 0, .slice none 0 0, .slice none 0 0] 32)) w.heap.size (.slice aa ts.length ac) ts := World.ownsRow.alloc (((hoa.below hb4).below hb5).base (by omega)) _
    have hbA : Below w.heap.size w (w5.alloc (.cells #[.slice none 0 0, .slice none 0 0, .slice none 0 0] 32)) :=
      ((((hb1.trans (hb2.mono s1)).trans (hb3.mono (by omega))).trans (hb4.mono (by omega))).trans (hb5.mono (by omega))).alloc (by omega) _
    have z6 : (w5.alloc (.cells #[.slice none 0 0, .slice none 0 0, .slice none 0 0] 32)).heap.size = w5.heap.size + 1 := by simp
    have hfb : ∀ g : Nat, some g = ((.slice fo ts.length fc) : Value).ownBlock → w1.heap.size ≤ g ∧ g < w2.heap.size := fun g h => World.ownsRow.lt hof g h.symm
    have hab : ∀ g : Nat, some g = (Value.slice aa ts.length ac).ownBlock → w2.heap.size ≤ g ∧ g < w3.heap.size := fun g h => World.ownsRow.lt hoa g h.symm
    refine (ownTokens_any _ _ ts w.heap.size w.heap.size w5.heap.size _ [] _ hof6 hlen hbk6 (by simp) (by omega) (by omega) (fun e he => by simp at he)).mono ?_
    rintro e w7 ⟨rfl, tv1, es1, hbk7, hl7, hk7, hn7⟩
    have s7 := hk7.size
    have hoa7 : Owns w7 w.heap.size (.slice aa ts.length ac) ts := owns_keep hoa6 fun g hg => by
      have h1 := hab g hg.symm
      refine hk7.keep g (by omega) ?_
      rintro (h | h | h)
      · have := hfb g h; omega
      · omega
      · simp [Value.ownBlock] at h
    have hne7 : ∀ e ∈ es1, ∀ g, e.1.ownBlock = some g → some g ≠ (Value.slice aa ts.length ac).ownBlock := by
      intro e he g hg hx
      have h1 := hab g hx
      rcases hn7 e he with h | h | ⟨g', h, h2⟩
      · simp at h
      · have := hfb g (hg.symm.trans h); omega
      · rw [hg] at h; injection h with h; omega
    have htb : ∀ g : Nat, some g = tv1.ownBlock → w.heap.size ≤ g := fun g h => (World.ownsRow.lt hbk7.own g h.symm).1
    go_wp2_with fail
    refine (ownTokens_any _ _ ts w.heap.size w.heap.size w5.heap.size _ es1 _ hoa7 hlen hbk7 (by rw [hl7]; decide) (by omega) (by omega) hne7).mono ?_
    rintro e w8 ⟨rfl, tv2, es2, hbk8, hl8, hk8, hn8⟩
    have s8 := hk8.size
    go_wp2_with fail
    refine (looks_any _ _ _ es2 _ hbk8 (by rw [hl8, hl7]; decide)).mono ?_
    rintro e w9 ⟨rfl, hb9⟩
    have b7 := hk7.below (B := w.heap.size) (by omega) (by
      rintro g (h | h | h)
      · have := hfb g h; omega
      · omega
      · simp [Value.ownBlock] at h)
    have b8 := hk8.below (B := w.heap.size) (by omega) (by
      rintro g (h | h | h)
      · have := hab g h; omega
      · omega
      · exact htb g h)
    have bfin := ((hbA.trans b7).trans b8).trans (hb9.mono (by omega))
    clear hl7 hl8 hn7 hn8
    go_wp2
    go_ret
    exact ⟨rfl, bfin⟩
  · have hn : ts = [] := scan_nil s.data.toList ts er pl HR.out her
    subst hn
    have hne : (er != 0) = true := by simpa using her
    have hnn := nil_ne
    go_enter Tryd.func3, Tryd.ntmps3
    go_wp2_with (go_at_call 10; refine (rscan_any s _ hs _ HR).mono ?_; rintro e w1 ⟨wv, rfl, how, hb1⟩; obtain ⟨wo, wc, rfl⟩ := how.shape)
    have hm1 := (hb1.cell (p := ⟨0, 0, none⟩) hgl).trans hm
    have s1 := hb1.size
    go_wp2_with fail
    refine (scan_any s _ hs m hm1 _ HR).mono ?_
    rintro e w2 ⟨fv, rfl, hof, hb2, hnf⟩
    obtain rfl := hnf her
    clear hnf
    have hm2 := (hb2.cell (p := ⟨0, 0, none⟩) (Nat.lt_of_lt_of_le hgl s1)).trans hm1
    have s2 := hb2.size
    go_wp2_with fail
    refine (scan_any s _ hs m hm2 _ HR).mono ?_
    rintro e w3 ⟨av, rfl, hoa, hb3, hna⟩
    clear hna
    obtain ⟨aa, ac, rfl⟩ := hoa.shape
    have s3 := hb3.size
    have hof3 := hof.below hb3
    have how3 := (how.below hb2).below hb3
    go_wp2_with fail
    refine (same_any _ _ _ _ ([] : List Sc.Tok) _ _ _ hof3 how3 hlen).mono ?_
    rintro e w4 ⟨rfl, hb4⟩
    have s4 := hb4.size
    go_wp2_with fail
    refine (same_any _ _ _ _ ([] : List Sc.Tok) _ _ _ (hoa.below hb4) (how3.below hb4) hlen).mono ?_
    rintro e w5 ⟨rfl, hb5⟩
    have s5 := hb5.size
    go_wp2_with fail
    have hbk6 : Bk (w5.alloc (.cells #[.slice none 0 0, .slice none 0 0, .slice none 0 0] 32)) w.heap.size w5.heap.size (.slice none 0 0) [] :=
      ⟨by omega, heap_alloc_new w5 _, World.ownsRow_nil _ _ _ _, fun e he => by simp at he, fun e he => by simp at he⟩
    have hof6 : Owns (w5.alloc (.cells #[.slice none 0 0, .slice none 0 0, .slice none 0 0] 32)) w.heap.size (.slice none 0 0) ([] : List Sc.Tok) := World.ownsRow.alloc (((hof3.below hb4).below hb5).base (by omega)) _
    have hoa6 : Owns (w5.alloc (.cells #[.slice none 0 0, .slice none 0 0, .slice none 0 0] 32)) w.heap.size (.slice aa ([] : List Sc.Tok).length ac) ([] : List Sc.Tok) := World.ownsRow.alloc (((hoa.below hb4).below hb5).base (by omega)) _
    have hbA : Below w.heap.size w (w5.alloc (.cells #[.slice none 0 0, .slice none 0 0, .slice none 0 0] 32)) :=
      ((((hb1.trans (hb2.mono s1)).trans (hb3.mono (by omega))).trans (hb4.mono (by omega))).trans (hb5.mono (by omega))).alloc (by omega) _
    have z6 : (w5.alloc (.cells #[.slice none 0 0, .slice none 0 0, .slice none 0 0] 32)).heap.size = w5.heap.size + 1 := by simp
    have hfb : ∀ g : Nat, some g = ((.slice none 0 0) : Value).ownBlock → w1.heap.size ≤ g ∧ g < w2.heap.size := fun g h => World.ownsRow.lt hof g h.symm
    have hab : ∀ g : Nat, some g = (Value.slice aa ([] : List Sc.Tok).length ac).ownBlock → w2.heap.size ≤ g ∧ g < w3.heap.size := fun g h => World.ownsRow.lt hoa g h.symm
    refine (ownTokens_any _ _ ([] : List Sc.Tok) w.heap.size w.heap.size w5.heap.size _ [] _ hof6 hlen hbk6 (by simp) (by omega) (by omega) (fun e he => by simp at he)).mono ?_
    rintro e w7 ⟨rfl, tv1, es1, hbk7, hl7, hk7, hn7⟩
    have s7 := hk7.size
    have hoa7 : Owns w7 w.heap.size (.slice aa ([] : List Sc.Tok).length ac) ([] : List Sc.Tok) := owns_keep hoa6 fun g hg => by
      have h1 := hab g hg.symm
      refine hk7.keep g (by omega) ?_
      rintro (h | h | h)
      · have := hfb g h; omega
      · omega
      · simp [Value.ownBlock] at h
    have hne7 : ∀ e ∈ es1, ∀ g, e.1.ownBlock = some g → some g ≠ (Value.slice aa ([] : List Sc.Tok).length ac).ownBlock := by
      intro e he g hg hx
      have h1 := hab g hx
      rcases hn7 e he with h | h | ⟨g', h, h2⟩
      · simp at h
      · have := hfb g (hg.symm.trans h); omega
      · rw [hg] at h; injection h with h; omega
    have htb : ∀ g : Nat, some g = tv1.ownBlock → w.heap.size ≤ g := fun g h => (World.ownsRow.lt hbk7.own g h.symm).1
    go_wp2_with fail
    refine (ownTokens_any _ _ ([] : List Sc.Tok) w.heap.size w.heap.size w5.heap.size _ es1 _ hoa7 hlen hbk7 (by rw [hl7]; decide) (by omega) (by omega) hne7).mono ?_
    rintro e w8 ⟨rfl, tv2, es2, hbk8, hl8, hk8, hn8⟩
    have s8 := hk8.size
    go_wp2_with fail
    refine (looks_any _ _ _ es2 _ hbk8 (by rw [hl8, hl7]; decide)).mono ?_
    rintro e w9 ⟨rfl, hb9⟩
    have b7 := hk7.below (B := w.heap.size) (by omega) (by
      rintro g (h | h | h)
      · have := hfb g h; omega
      · omega
      · simp [Value.ownBlock] at h)
    have b8 := hk8.below (B := w.heap.size) (by omega) (by
      rintro g (h | h | h)
      · have := hab g h; omega
      · omega
      · exact htb g h)
    have bfin := ((hbA.trans b7).trans b8).trans (hb9.mono (by omega))
    clear hl7 hl8 hn7 hn8
    go_wp2
    go_ret
    exact ⟨rfl, bfin⟩
end Go.Proofs.YtoieklacpkahbaaDoor
