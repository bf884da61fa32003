/- Loose: the walk of gap, and of loose. -/
import Derived.Test.YtoieklacpkahbaaDoorLooseB
import Derived.Test.YtoieklacpkahbaaDoorLooseC
import Derived.Test.YtoieklacpkahbaaDoorPlainG
import Derived.Test.YtoieklacpkahbaaDoorPlainM
import Derived.Test.YtoieklacpkahbaaDoorLayS
import Derived.Deep.RegionWith
namespace Go.Proofs.YtoieklacpkahbaaDoor
open Go.RowKit
theorem gap_any (n : Int) (h1 : -9223372036854775808 ≤ n) (h2 : n ≤ 9223372036854775807) (b : Bool) (w : World) :
    Calls Tryd.prog 34 #[.int .i64 n, .bool b] w fun e w' => (∃ G, e = .returned (.string ⟨G.toArray⟩) ∧ isGap b G) ∧ Below w.heap.size w w' := by
  by_cases hn : n < 0
  · exact gap_neg n hn h1 h2 b w
  · exact gap_pos n hn h1 h2 b w
/-- A row of ints that was handed in. -/
def GapsAt (w : World) (go : Option Addr) (gn gc : Nat) : Prop :=
  ∀ k, k < gn → ∃ b off n, go = some ⟨b, off, none⟩ ∧ gn ≤ gc ∧ b < w.heap.size ∧ -9223372036854775808 ≤ n ∧ n ≤ 9223372036854775807 ∧ w.cell? ⟨b, off + k, none⟩ = some (.int .i64 n)
theorem GapsAt.below {w w' : World} {go : Option Addr} {gn gc : Nat} (h : GapsAt w go gn gc) (hb : Below w.heap.size w w') : GapsAt w' go gn gc := by
  intro k hk
  obtain ⟨b, off, n, h1, h2, h3, h4, h5, h6⟩ := h k hk
  exact ⟨b, off, n, h1, h2, Nat.lt_of_lt_of_le h3 hb.size, h4, h5, (hb.cell h3).trans h6⟩
theorem lg_nl {b : Bool} {G : List UInt8} {ts : List Sc.Tok} {k : Nat} (hk : k < ts.length) (hG : isGap b G) (hc : (0 < k ∧ ∃ q, ts[k - 1]? = some q ∧ q.kind = 5) ∨ (ts[k].kind = 5 ∧ ts[k].behind = false)) : Sc.LooseGap ts k hk (10 :: G) := by
  refine ⟨fun c hc => ?_, by simp, fun _ => ⟨G, rfl⟩, fun h => absurd hc h⟩
  rcases List.mem_cons.1 hc with rfl | h
  · rfl
  · exact hG.1 c h
theorem lg_in {b : Bool} {G : List UInt8} {ts : List Sc.Tok} {k : Nat} (hk : k < ts.length) (hG : isGap b G) (hb : ts[k].kind = 5 → b = false) (hc : ¬ ((0 < k ∧ ∃ q, ts[k - 1]? = some q ∧ q.kind = 5) ∨ (ts[k].kind = 5 ∧ ts[k].behind = false))) : Sc.LooseGap ts k hk G :=
  ⟨hG.1, hG.2.1, fun h => absurd h hc, fun _ h5 => hG.2.2.2 (hb h5)⟩
theorem bytes_nl (S G T : List UInt8) : (⟨S.toArray⟩ : ByteArray) ++ ⟨#[10]⟩ ++ ⟨G.toArray⟩ ++ ⟨T.toArray⟩ = ⟨(S ++ (10 :: G) ++ T).toArray⟩ := by
  apply ByteArray.ext; simp
theorem bytes_in (S G T : List UInt8) : (⟨S.toArray⟩ : ByteArray) ++ ⟨G.toArray⟩ ++ ⟨T.toArray⟩ = ⟨(S ++ G ++ T).toArray⟩ := by
  apply ByteArray.ext; simp
theorem conv_at (W : World) (b : Nat) (h : W.cell? ⟨b, 0, none⟩ = some (.int .u8 10)) : (convert 46 9 (.slice (some ⟨b, 0, none⟩) 1 1)).run Tryd.prog W = .ok (.string ⟨#[10]⟩) W :=
  run_convert_bytes_back (P := Tryd.prog) W 46 9 5 ⟨b, 0, none⟩ 1 [10] Tryd.underlying46 (by kernel_rfl) Tryd.underlying9 (fun j hj => by
    have hj : j = 0 := by simpa using hj
    subst hj
    simpa [Addr.add] using h)
/-- What stands so far. -/
def Loo (ts : List Sc.Tok) (k : Nat) (S : List UInt8) : Prop := ∃ ps, ps.map (·.2) = ts.take k ∧ Sc.Okp none ps [] ∧ S = Sc.render ps [] ∧ S.length ≤ 11 * k + Sc.wt (ts.take k)
theorem Loo.step {l : List UInt8} {ts : List Sc.Tok} {pl : Int} (h : Sc.scanRes l = (ts, 0, pl)) {k : Nat} {hk : k < ts.length} {S g : List UInt8} (hL : Loo ts k S) (hg : Sc.LooseGap ts k hk g) (hl : g.length ≤ 11) : Loo ts (k + 1) (S ++ g ++ ts[k].text) := by
  obtain ⟨ps, h1, h2, rfl, h3⟩ := hL
  obtain ⟨a, b, c⟩ := Sc.loose_step h k hk ps h1 h2 g hg
  refine ⟨_, a, b, c.symm, ?_⟩
  rw [List.take_succ_eq_append_getElem hk, Sc.wt_app]
  simp only [List.length_append, Sc.wt]
  omega

set_option maxRecDepth 20000 in
set_option maxHeartbeats 8000000 in
theorem loose_any {l : List UInt8} {ts : List Sc.Tok} {pl : Int} (HS : Hid (Sc.scanRes l = (ts, 0, pl))) (lo : Option Addr) (lc A : Nat) (go : Option Addr) (gn gc : Nat) (hgm : gn ≤ maxLen) (w : World) (ho : Owns w A (.slice lo ts.length lc) ts) (hg : GapsAt w go gn gc) :
    Calls Tryd.prog 21 #[.slice lo ts.length lc, .slice go gn gc] w fun e w' => (∃ S, e = .returned (.string ⟨S.toArray⟩) ∧ Loo ts ts.length S) ∧ Below w.heap.size w w' := by
  have htl := (Sc.scan_toks HS.out).2.1
  have HWT := hide (Sc.scan_toks HS.out).1
  have HT := hide (fun k (hk : k < ts.length) => ((Sc.scan_toks HS.out).2.2 ts[k] (List.getElem_mem hk)).2.2.1)
  obtain ⟨N, hN⟩ : ∃ N, ts.length = N := ⟨_, rfl⟩
  rw [hN] at ho htl ⊢
  have HN := hide hN
  have HO := hide ho
  have HG := hide hg
  clear ho hg hN
  unfold maxLen at hgm
  go_enter Tryd.func21, Tryd.ntmps21
  go_wp2
  go_loopw [5, 6] (fun s i wr => ∃ (k : Nat) (S : List UInt8), k ≤ N ∧ s = .string ⟨S.toArray⟩ ∧ i = .int .i64 k ∧ Hid (Loo ts k S) ∧ Below w.heap.size w wr) (fun _ i _ => N - (intOf i).toNat)
  case atStart => exact ⟨0, [], by omega, rfl, rfl, hide ⟨[], rfl, ⟨fun c hc => by simp at hc, fun q _ _ => .inl rfl⟩, rfl, by simp⟩, Below.refl _ _⟩
  case round =>
    obtain ⟨k, S, hk, rfl, rfl, HL, hb⟩ := hrel
    by_cases hlt : k < N
    · have hltN : k < ts.length := by have := HN.out; omega
      have hSl : S.length ≤ 60000 := by
        obtain ⟨_, _, _, _, h⟩ := HL.out
        have := HWT.out
        have := Sc.wt_take ts k
        omega
      obtain ⟨g, hg1, -, -, hg4, hcap, c0, c1, -, c3⟩ := (HO.out.below hb).at k hltN
      subst hg1
      have hcap' : N ≤ lc := by have := HN.out; omega
      have hTl := HT.out k hltN
      have hzS := wbsize S
      have hzT := wbsize ts[k].text
      obtain ⟨n, n1, n2, hgp⟩ : ∃ n : Int, -9223372036854775808 ≤ n ∧ n ≤ 9223372036854775807 ∧ ((k < gn ∧ ∃ b off, go = some ⟨b, off, none⟩ ∧ gn ≤ gc ∧ wr.cell? ⟨b, off + k, none⟩ = some (.int .i64 n)) ∨ (¬ k < gn ∧ n = 0)) := by
        by_cases h : k < gn
        · obtain ⟨b, off, n, h1, h2, _, h4, h5, h6⟩ := (HG.out.below hb) k h
          exact ⟨n, h4, h5, .inl ⟨h, b, off, h1, h2, h6⟩⟩
        · exact ⟨0, by omega, by omega, .inr ⟨h, rfl⟩⟩
      have GP := hide (fun b w' => gap_any n n1 n2 b w')
      have hc10 : (convert 46 9 (.slice (some ⟨wr.heap.size, 0, none⟩) 1 1)).run Tryd.prog (wr.alloc (Obj.cells #[.int .u8 10] 5)).drew = .ok (.string ⟨#[10]⟩) (wr.alloc (Obj.cells #[.int .u8 10] 5)).drew := conv1 wr.drew 10
      have hb10d := hide (hb.alloc hb.size (Obj.cells #[.int .u8 10] 5)).drew
      have hbd := hide hb.drew
      have hbm := hide (Below.refl wr.heap.size wr).drew
      have hbn := hide ((Below.refl wr.heap.size wr).alloc (Nat.le_refl _) (Obj.cells #[.int .u8 10] 5)).drew
      have HCW := hide (fun W (hW : Below wr.heap.size wr W) => (hW.cell (p := ⟨g, k * 4 + 1, none⟩) hg4).trans c1)
      have hbH := hide hb
      have HNL : Hid (∀ (b : Bool) (G : List UInt8), isGap b G → ((0 < k ∧ ∃ q, ts[k - 1]? = some q ∧ q.kind = 5) ∨ (ts[k].kind = 5 ∧ ts[k].behind = false)) → Loo ts (k + 1) (S ++ (10 :: G) ++ ts[k].text)) := hide fun b G h hc => HL.out.step HS.out (lg_nl hltN h hc) (by have := h.2.2.1; simp; omega)
      have HIN : Hid (∀ (b : Bool) (G : List UInt8), isGap b G → (ts[k].kind = 5 → b = false) → ¬ ((0 < k ∧ ∃ q, ts[k - 1]? = some q ∧ q.kind = 5) ∨ (ts[k].kind = 5 ∧ ts[k].behind = false)) → Loo ts (k + 1) (S ++ G ++ ts[k].text)) := hide fun b G h hb hc => HL.out.step HS.out (lg_in hltN h hb hc) (by have := h.2.2.1; omega)
      have HBN := hide (fun G => bytes_nl S G ts[k].text)
      have HBI := hide (fun G => bytes_in S G ts[k].text)
      have hpr : Hid (0 < k → ∃ q, ts[k - 1]? = some q ∧ wr.cell? ⟨g, (k - 1) * 4, none⟩ = some (.int .i64 q.kind)) := hide fun h0 => by
        have hl1 : k - 1 < ts.length := by omega
        obtain ⟨g', hg1', -, -, -, -, c0', -⟩ := (HO.out.below hb).at (k - 1) hl1
        injection hg1' with e
        injection e with e
        subst e
        exact ⟨ts[k - 1], List.getElem?_eq_getElem hl1, c0'⟩
      generalize ts[k].kind = kk at *
      generalize ts[k].text = T at *
      generalize ts[k].behind = bb at *
      generalize (⟨S.toArray⟩ : ByteArray) = SB at *
      generalize (⟨T.toArray⟩ : ByteArray) = TB at *
      have hs1 : SB.size ≤ 60000 := by omega
      have hs2 : TB.size ≤ 4096 := by omega
      clear hzS hzT hltN hcap hb
      rcases hgp with ⟨hkg, b, off, rfl, hgc, hcell⟩ | ⟨hkg, rfl⟩
      · have hkgi : (k : Int) < (gn : Int) := by omega
        by_cases h0 : k = 0
        · have HNA : Hid (¬ (0 < k ∧ ∃ q, ts[k - 1]? = some q ∧ q.kind = 5)) := hide fun h => by omega
          have h0i : ¬ (0 : Int) < (k : Int) := by omega
          clear h0
          cases hC : (kk == 5) with
          | true =>
            have hC5 : kk = 5 := by simpa using hC
            cases hB : bb with
            | false =>
              go_wp2
              go_region_with (go_at_call 34; refine (GP.out _ _).mono ?_; rintro e w1 ⟨⟨G, rfl, hG⟩, hb1⟩; have hzG : (⟨G.toArray⟩ : ByteArray).size ≤ 10 := (by rw [wbsize]; exact hG.2.2.1); have HGG := hide hG; clear hG; have HGX := hide (HBN.out G); generalize (⟨G.toArray⟩ : ByteArray) = GB at *; first | (have HB := hide (hb10d.out.trans (hb1.mono hb10d.out.size)); have hcT := HCW.out w1 (hbn.out.trans (hb1.mono hbn.out.size)); have hc2 := conv_at w1 wr.heap.size ((hb1.cell (p := ⟨wr.heap.size, 0, none⟩) (by simp)).trans (by simp)); clear hb1) | (have HB0 := hbd.out.trans (hb1.mono hbd.out.size); have HB := hide (HB0.alloc HB0.size (Obj.cells #[.int .u8 10] 5)); have hcT := HCW.out _ ((hbm.out.trans (hb1.mono hbm.out.size)).alloc (hbm.out.trans (hb1.mono hbm.out.size)).size (Obj.cells #[.int .u8 10] 5)); have hc3 : (convert 46 9 (.slice (some ⟨w1.heap.size, 0, none⟩) 1 1)).run Tryd.prog (w1.alloc (Obj.cells #[.int .u8 10] 5)) = .ok (.string ⟨#[10]⟩) (w1.alloc (Obj.cells #[.int .u8 10] 5)) := conv1 w1 10; clear HB0 hb1))
              all_goals go_wp2
              all_goals (
                go_roundw
                case rel => exact ⟨k + 1, S ++ (10 :: G) ++ T, by omega, by first | (rw [← HGX.out]; done) | (rw [← HGX.out]; rfl) | (rw [HGX.out]; done) | (rw [HGX.out]; rfl), by go_num, hide (HNL.out _ G HGG.out (.inr ⟨hC5, hB⟩)), HB.out⟩
                case measure => simp [intOf]; omega)
            | true =>
              go_wp2_with (go_at_call 34; refine (GP.out _ _).mono ?_; rintro e w1 ⟨⟨G, rfl, hG⟩, hb1⟩; have hzG : (⟨G.toArray⟩ : ByteArray).size ≤ 10 := (by rw [wbsize]; exact hG.2.2.1); have HGG := hide hG; clear hG; have HGX := hide (HBI.out G); generalize (⟨G.toArray⟩ : ByteArray) = GB at *; have HB := hide (hbH.out.trans (hb1.mono hbH.out.size)); have hcT := HCW.out w1 hb1; clear hb1)
              all_goals (
                go_roundw
                case rel => exact ⟨k + 1, S ++ G ++ T, by omega, by first | (rw [← HGX.out]; done) | (rw [← HGX.out]; rfl) | (rw [HGX.out]; done) | (rw [HGX.out]; rfl), by go_num, hide (HIN.out _ G HGG.out (fun _ => rfl) (by rintro (h | ⟨_, h⟩); exact HNA.out h; exact Bool.noConfusion (hB.symm.trans h))), HB.out⟩
                case measure => simp [intOf]; omega)
          | false =>
            have hC5 : kk ≠ 5 := by simpa using hC
            go_wp2_with (go_at_call 34; refine (GP.out _ _).mono ?_; rintro e w1 ⟨⟨G, rfl, hG⟩, hb1⟩; have hzG : (⟨G.toArray⟩ : ByteArray).size ≤ 10 := (by rw [wbsize]; exact hG.2.2.1); have HGG := hide hG; clear hG; have HGX := hide (HBI.out G); generalize (⟨G.toArray⟩ : ByteArray) = GB at *; have HB := hide (hbH.out.trans (hb1.mono hbH.out.size)); have hcT := HCW.out w1 hb1; clear hb1)
            all_goals (
              go_roundw
              case rel => exact ⟨k + 1, S ++ G ++ T, by omega, by first | (rw [← HGX.out]; done) | (rw [← HGX.out]; rfl) | (rw [HGX.out]; done) | (rw [HGX.out]; rfl), by go_num, hide (HIN.out _ G HGG.out (fun h => absurd h hC5) (by rintro (h | ⟨h, _⟩); exact HNA.out h; exact hC5 h)), HB.out⟩
              case measure => simp [intOf]; omega)
        · have h0i : (0 : Int) < (k : Int) := by omega
          obtain ⟨q, hq, cq⟩ := hpr.out (by omega)
          have HQ := hide hq
          clear hq
          cases hP : (q.kind == 5) with
          | true =>
            have hP5 : q.kind = 5 := by simpa using hP
            go_wp2
            go_region_with (go_at_call 34; refine (GP.out _ _).mono ?_; rintro e w1 ⟨⟨G, rfl, hG⟩, hb1⟩; have hzG : (⟨G.toArray⟩ : ByteArray).size ≤ 10 := (by rw [wbsize]; exact hG.2.2.1); have HGG := hide hG; clear hG; have HGX := hide (HBN.out G); generalize (⟨G.toArray⟩ : ByteArray) = GB at *; first | (have HB := hide (hb10d.out.trans (hb1.mono hb10d.out.size)); have hcT := HCW.out w1 (hbn.out.trans (hb1.mono hbn.out.size)); have hc2 := conv_at w1 wr.heap.size ((hb1.cell (p := ⟨wr.heap.size, 0, none⟩) (by simp)).trans (by simp)); clear hb1) | (have HB0 := hbd.out.trans (hb1.mono hbd.out.size); have HB := hide (HB0.alloc HB0.size (Obj.cells #[.int .u8 10] 5)); have hcT := HCW.out _ ((hbm.out.trans (hb1.mono hbm.out.size)).alloc (hbm.out.trans (hb1.mono hbm.out.size)).size (Obj.cells #[.int .u8 10] 5)); have hc3 : (convert 46 9 (.slice (some ⟨w1.heap.size, 0, none⟩) 1 1)).run Tryd.prog (w1.alloc (Obj.cells #[.int .u8 10] 5)) = .ok (.string ⟨#[10]⟩) (w1.alloc (Obj.cells #[.int .u8 10] 5)) := conv1 w1 10; clear HB0 hb1))
            all_goals go_wp2
            all_goals (
              go_roundw
              case rel => exact ⟨k + 1, S ++ (10 :: G) ++ T, by omega, by first | (rw [← HGX.out]; done) | (rw [← HGX.out]; rfl) | (rw [HGX.out]; done) | (rw [HGX.out]; rfl), by go_num, hide (HNL.out _ G HGG.out (.inl ⟨by omega, q, HQ.out, hP5⟩)), HB.out⟩
              case measure => simp [intOf]; omega)
          | false =>
            have hP5 : q.kind ≠ 5 := by simpa using hP
            have HNA : Hid (¬ (0 < k ∧ ∃ q, ts[k - 1]? = some q ∧ q.kind = 5)) := hide (by rintro ⟨_, q2, h2, h3⟩; rw [HQ.out] at h2; injection h2 with h2; subst h2; exact hP5 h3)
            cases hC : (kk == 5) with
            | true =>
              have hC5 : kk = 5 := by simpa using hC
              cases hB : bb with
              | false =>
                go_wp2
                go_region_with (go_at_call 34; refine (GP.out _ _).mono ?_; rintro e w1 ⟨⟨G, rfl, hG⟩, hb1⟩; have hzG : (⟨G.toArray⟩ : ByteArray).size ≤ 10 := (by rw [wbsize]; exact hG.2.2.1); have HGG := hide hG; clear hG; have HGX := hide (HBN.out G); generalize (⟨G.toArray⟩ : ByteArray) = GB at *; first | (have HB := hide (hb10d.out.trans (hb1.mono hb10d.out.size)); have hcT := HCW.out w1 (hbn.out.trans (hb1.mono hbn.out.size)); have hc2 := conv_at w1 wr.heap.size ((hb1.cell (p := ⟨wr.heap.size, 0, none⟩) (by simp)).trans (by simp)); clear hb1) | (have HB0 := hbd.out.trans (hb1.mono hbd.out.size); have HB := hide (HB0.alloc HB0.size (Obj.cells #[.int .u8 10] 5)); have hcT := HCW.out _ ((hbm.out.trans (hb1.mono hbm.out.size)).alloc (hbm.out.trans (hb1.mono hbm.out.size)).size (Obj.cells #[.int .u8 10] 5)); have hc3 : (convert 46 9 (.slice (some ⟨w1.heap.size, 0, none⟩) 1 1)).run Tryd.prog (w1.alloc (Obj.cells #[.int .u8 10] 5)) = .ok (.string ⟨#[10]⟩) (w1.alloc (Obj.cells #[.int .u8 10] 5)) := conv1 w1 10; clear HB0 hb1))
                all_goals go_wp2
                all_goals (
                  go_roundw
                  case rel => exact ⟨k + 1, S ++ (10 :: G) ++ T, by omega, by first | (rw [← HGX.out]; done) | (rw [← HGX.out]; rfl) | (rw [HGX.out]; done) | (rw [HGX.out]; rfl), by go_num, hide (HNL.out _ G HGG.out (.inr ⟨hC5, hB⟩)), HB.out⟩
                  case measure => simp [intOf]; omega)
              | true =>
                go_wp2_with (go_at_call 34; refine (GP.out _ _).mono ?_; rintro e w1 ⟨⟨G, rfl, hG⟩, hb1⟩; have hzG : (⟨G.toArray⟩ : ByteArray).size ≤ 10 := (by rw [wbsize]; exact hG.2.2.1); have HGG := hide hG; clear hG; have HGX := hide (HBI.out G); generalize (⟨G.toArray⟩ : ByteArray) = GB at *; have HB := hide (hbH.out.trans (hb1.mono hbH.out.size)); have hcT := HCW.out w1 hb1; clear hb1)
                all_goals (
                  go_roundw
                  case rel => exact ⟨k + 1, S ++ G ++ T, by omega, by first | (rw [← HGX.out]; done) | (rw [← HGX.out]; rfl) | (rw [HGX.out]; done) | (rw [HGX.out]; rfl), by go_num, hide (HIN.out _ G HGG.out (fun _ => rfl) (by rintro (h | ⟨_, h⟩); exact HNA.out h; exact Bool.noConfusion (hB.symm.trans h))), HB.out⟩
                  case measure => simp [intOf]; omega)
            | false =>
              have hC5 : kk ≠ 5 := by simpa using hC
              go_wp2_with (go_at_call 34; refine (GP.out _ _).mono ?_; rintro e w1 ⟨⟨G, rfl, hG⟩, hb1⟩; have hzG : (⟨G.toArray⟩ : ByteArray).size ≤ 10 := (by rw [wbsize]; exact hG.2.2.1); have HGG := hide hG; clear hG; have HGX := hide (HBI.out G); generalize (⟨G.toArray⟩ : ByteArray) = GB at *; have HB := hide (hbH.out.trans (hb1.mono hbH.out.size)); have hcT := HCW.out w1 hb1; clear hb1)
              all_goals (
                go_roundw
                case rel => exact ⟨k + 1, S ++ G ++ T, by omega, by first | (rw [← HGX.out]; done) | (rw [← HGX.out]; rfl) | (rw [HGX.out]; done) | (rw [HGX.out]; rfl), by go_num, hide (HIN.out _ G HGG.out (fun h => absurd h hC5) (by rintro (h | ⟨h, _⟩); exact HNA.out h; exact hC5 h)), HB.out⟩
                case measure => simp [intOf]; omega)
      · have hkgi : ¬ (k : Int) < (gn : Int) := by omega
        by_cases h0 : k = 0
        · have HNA : Hid (¬ (0 < k ∧ ∃ q, ts[k - 1]? = some q ∧ q.kind = 5)) := hide fun h => by omega
          have h0i : ¬ (0 : Int) < (k : Int) := by omega
          clear h0
          cases hC : (kk == 5) with
          | true =>
            have hC5 : kk = 5 := by simpa using hC
            cases hB : bb with
            | false =>
              go_wp2
              go_region_with (go_at_call 34; refine (GP.out _ _).mono ?_; rintro e w1 ⟨⟨G, rfl, hG⟩, hb1⟩; have hzG : (⟨G.toArray⟩ : ByteArray).size ≤ 10 := (by rw [wbsize]; exact hG.2.2.1); have HGG := hide hG; clear hG; have HGX := hide (HBN.out G); generalize (⟨G.toArray⟩ : ByteArray) = GB at *; first | (have HB := hide (hb10d.out.trans (hb1.mono hb10d.out.size)); have hcT := HCW.out w1 (hbn.out.trans (hb1.mono hbn.out.size)); have hc2 := conv_at w1 wr.heap.size ((hb1.cell (p := ⟨wr.heap.size, 0, none⟩) (by simp)).trans (by simp)); clear hb1) | (have HB0 := hbd.out.trans (hb1.mono hbd.out.size); have HB := hide (HB0.alloc HB0.size (Obj.cells #[.int .u8 10] 5)); have hcT := HCW.out _ ((hbm.out.trans (hb1.mono hbm.out.size)).alloc (hbm.out.trans (hb1.mono hbm.out.size)).size (Obj.cells #[.int .u8 10] 5)); have hc3 : (convert 46 9 (.slice (some ⟨w1.heap.size, 0, none⟩) 1 1)).run Tryd.prog (w1.alloc (Obj.cells #[.int .u8 10] 5)) = .ok (.string ⟨#[10]⟩) (w1.alloc (Obj.cells #[.int .u8 10] 5)) := conv1 w1 10; clear HB0 hb1))
              all_goals go_wp2
              all_goals (
                go_roundw
                case rel => exact ⟨k + 1, S ++ (10 :: G) ++ T, by omega, by first | (rw [← HGX.out]; done) | (rw [← HGX.out]; rfl) | (rw [HGX.out]; done) | (rw [HGX.out]; rfl), by go_num, hide (HNL.out _ G HGG.out (.inr ⟨hC5, hB⟩)), HB.out⟩
                case measure => simp [intOf]; omega)
            | true =>
              go_wp2_with (go_at_call 34; refine (GP.out _ _).mono ?_; rintro e w1 ⟨⟨G, rfl, hG⟩, hb1⟩; have hzG : (⟨G.toArray⟩ : ByteArray).size ≤ 10 := (by rw [wbsize]; exact hG.2.2.1); have HGG := hide hG; clear hG; have HGX := hide (HBI.out G); generalize (⟨G.toArray⟩ : ByteArray) = GB at *; have HB := hide (hbH.out.trans (hb1.mono hbH.out.size)); have hcT := HCW.out w1 hb1; clear hb1)
              all_goals (
                go_roundw
                case rel => exact ⟨k + 1, S ++ G ++ T, by omega, by first | (rw [← HGX.out]; done) | (rw [← HGX.out]; rfl) | (rw [HGX.out]; done) | (rw [HGX.out]; rfl), by go_num, hide (HIN.out _ G HGG.out (fun _ => rfl) (by rintro (h | ⟨_, h⟩); exact HNA.out h; exact Bool.noConfusion (hB.symm.trans h))), HB.out⟩
                case measure => simp [intOf]; omega)
          | false =>
            have hC5 : kk ≠ 5 := by simpa using hC
            go_wp2_with (go_at_call 34; refine (GP.out _ _).mono ?_; rintro e w1 ⟨⟨G, rfl, hG⟩, hb1⟩; have hzG : (⟨G.toArray⟩ : ByteArray).size ≤ 10 := (by rw [wbsize]; exact hG.2.2.1); have HGG := hide hG; clear hG; have HGX := hide (HBI.out G); generalize (⟨G.toArray⟩ : ByteArray) = GB at *; have HB := hide (hbH.out.trans (hb1.mono hbH.out.size)); have hcT := HCW.out w1 hb1; clear hb1)
            all_goals (
              go_roundw
              case rel => exact ⟨k + 1, S ++ G ++ T, by omega, by first | (rw [← HGX.out]; done) | (rw [← HGX.out]; rfl) | (rw [HGX.out]; done) | (rw [HGX.out]; rfl), by go_num, hide (HIN.out _ G HGG.out (fun h => absurd h hC5) (by rintro (h | ⟨h, _⟩); exact HNA.out h; exact hC5 h)), HB.out⟩
              case measure => simp [intOf]; omega)
        · have h0i : (0 : Int) < (k : Int) := by omega
          obtain ⟨q, hq, cq⟩ := hpr.out (by omega)
          have HQ := hide hq
          clear hq
          cases hP : (q.kind == 5) with
          | true =>
            have hP5 : q.kind = 5 := by simpa using hP
            go_wp2
            go_region_with (go_at_call 34; refine (GP.out _ _).mono ?_; rintro e w1 ⟨⟨G, rfl, hG⟩, hb1⟩; have hzG : (⟨G.toArray⟩ : ByteArray).size ≤ 10 := (by rw [wbsize]; exact hG.2.2.1); have HGG := hide hG; clear hG; have HGX := hide (HBN.out G); generalize (⟨G.toArray⟩ : ByteArray) = GB at *; first | (have HB := hide (hb10d.out.trans (hb1.mono hb10d.out.size)); have hcT := HCW.out w1 (hbn.out.trans (hb1.mono hbn.out.size)); have hc2 := conv_at w1 wr.heap.size ((hb1.cell (p := ⟨wr.heap.size, 0, none⟩) (by simp)).trans (by simp)); clear hb1) | (have HB0 := hbd.out.trans (hb1.mono hbd.out.size); have HB := hide (HB0.alloc HB0.size (Obj.cells #[.int .u8 10] 5)); have hcT := HCW.out _ ((hbm.out.trans (hb1.mono hbm.out.size)).alloc (hbm.out.trans (hb1.mono hbm.out.size)).size (Obj.cells #[.int .u8 10] 5)); have hc3 : (convert 46 9 (.slice (some ⟨w1.heap.size, 0, none⟩) 1 1)).run Tryd.prog (w1.alloc (Obj.cells #[.int .u8 10] 5)) = .ok (.string ⟨#[10]⟩) (w1.alloc (Obj.cells #[.int .u8 10] 5)) := conv1 w1 10; clear HB0 hb1))
            all_goals go_wp2
            all_goals (
              go_roundw
              case rel => exact ⟨k + 1, S ++ (10 :: G) ++ T, by omega, by first | (rw [← HGX.out]; done) | (rw [← HGX.out]; rfl) | (rw [HGX.out]; done) | (rw [HGX.out]; rfl), by go_num, hide (HNL.out _ G HGG.out (.inl ⟨by omega, q, HQ.out, hP5⟩)), HB.out⟩
              case measure => simp [intOf]; omega)
          | false =>
            have hP5 : q.kind ≠ 5 := by simpa using hP
            have HNA : Hid (¬ (0 < k ∧ ∃ q, ts[k - 1]? = some q ∧ q.kind = 5)) := hide (by rintro ⟨_, q2, h2, h3⟩; rw [HQ.out] at h2; injection h2 with h2; subst h2; exact hP5 h3)
            cases hC : (kk == 5) with
            | true =>
              have hC5 : kk = 5 := by simpa using hC
              cases hB : bb with
              | false =>
                go_wp2
                go_region_with (go_at_call 34; refine (GP.out _ _).mono ?_; rintro e w1 ⟨⟨G, rfl, hG⟩, hb1⟩; have hzG : (⟨G.toArray⟩ : ByteArray).size ≤ 10 := (by rw [wbsize]; exact hG.2.2.1); have HGG := hide hG; clear hG; have HGX := hide (HBN.out G); generalize (⟨G.toArray⟩ : ByteArray) = GB at *; first | (have HB := hide (hb10d.out.trans (hb1.mono hb10d.out.size)); have hcT := HCW.out w1 (hbn.out.trans (hb1.mono hbn.out.size)); have hc2 := conv_at w1 wr.heap.size ((hb1.cell (p := ⟨wr.heap.size, 0, none⟩) (by simp)).trans (by simp)); clear hb1) | (have HB0 := hbd.out.trans (hb1.mono hbd.out.size); have HB := hide (HB0.alloc HB0.size (Obj.cells #[.int .u8 10] 5)); have hcT := HCW.out _ ((hbm.out.trans (hb1.mono hbm.out.size)).alloc (hbm.out.trans (hb1.mono hbm.out.size)).size (Obj.cells #[.int .u8 10] 5)); have hc3 : (convert 46 9 (.slice (some ⟨w1.heap.size, 0, none⟩) 1 1)).run Tryd.prog (w1.alloc (Obj.cells #[.int .u8 10] 5)) = .ok (.string ⟨#[10]⟩) (w1.alloc (Obj.cells #[.int .u8 10] 5)) := conv1 w1 10; clear HB0 hb1))
                all_goals go_wp2
                all_goals (
                  go_roundw
                  case rel => exact ⟨k + 1, S ++ (10 :: G) ++ T, by omega, by first | (rw [← HGX.out]; done) | (rw [← HGX.out]; rfl) | (rw [HGX.out]; done) | (rw [HGX.out]; rfl), by go_num, hide (HNL.out _ G HGG.out (.inr ⟨hC5, hB⟩)), HB.out⟩
                  case measure => simp [intOf]; omega)
              | true =>
                go_wp2_with (go_at_call 34; refine (GP.out _ _).mono ?_; rintro e w1 ⟨⟨G, rfl, hG⟩, hb1⟩; have hzG : (⟨G.toArray⟩ : ByteArray).size ≤ 10 := (by rw [wbsize]; exact hG.2.2.1); have HGG := hide hG; clear hG; have HGX := hide (HBI.out G); generalize (⟨G.toArray⟩ : ByteArray) = GB at *; have HB := hide (hbH.out.trans (hb1.mono hbH.out.size)); have hcT := HCW.out w1 hb1; clear hb1)
                all_goals (
                  go_roundw
                  case rel => exact ⟨k + 1, S ++ G ++ T, by omega, by first | (rw [← HGX.out]; done) | (rw [← HGX.out]; rfl) | (rw [HGX.out]; done) | (rw [HGX.out]; rfl), by go_num, hide (HIN.out _ G HGG.out (fun _ => rfl) (by rintro (h | ⟨_, h⟩); exact HNA.out h; exact Bool.noConfusion (hB.symm.trans h))), HB.out⟩
                  case measure => simp [intOf]; omega)
            | false =>
              have hC5 : kk ≠ 5 := by simpa using hC
              go_wp2_with (go_at_call 34; refine (GP.out _ _).mono ?_; rintro e w1 ⟨⟨G, rfl, hG⟩, hb1⟩; have hzG : (⟨G.toArray⟩ : ByteArray).size ≤ 10 := (by rw [wbsize]; exact hG.2.2.1); have HGG := hide hG; clear hG; have HGX := hide (HBI.out G); generalize (⟨G.toArray⟩ : ByteArray) = GB at *; have HB := hide (hbH.out.trans (hb1.mono hbH.out.size)); have hcT := HCW.out w1 hb1; clear hb1)
              all_goals (
                go_roundw
                case rel => exact ⟨k + 1, S ++ G ++ T, by omega, by first | (rw [← HGX.out]; done) | (rw [← HGX.out]; rfl) | (rw [HGX.out]; done) | (rw [HGX.out]; rfl), by go_num, hide (HIN.out _ G HGG.out (fun h => absurd h hC5) (by rintro (h | ⟨h, _⟩); exact HNA.out h; exact hC5 h)), HB.out⟩
                case measure => simp [intOf]; omega)
    · have hkN : k = N := by omega
      subst hkN
      have hN' := HN.out
      go_wp2
      go_ret
      exact ⟨⟨S, rfl, HL.out⟩, hb⟩
end Go.Proofs.YtoieklacpkahbaaDoor
