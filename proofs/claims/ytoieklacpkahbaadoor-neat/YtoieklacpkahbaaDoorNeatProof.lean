/- The walk of Neat. -/
/- The row of Neat, and its card. -/
import Derived.Test.YtoieklacpkahbaaDoorSameWalk
import Derived.Test.YtoieklacpkahbaaDoorPlainP
import Derived.Test.YtoieklacpkahbaaDoorCards
import Derived.Test.YtoieklacpkahbaaDoorTie
import Derived.ProofKit
import Derived.OpenShut
import Derived.LaidMore
import Derived.Lay
import Derived.Deep.DeepHandedRow
import Derived.SevenTiedAt
import Derived.Stop.Joined
namespace Go.Proofs.YtoieklacpkahbaaDoor
open Go.RowKit
theorem no_toks {l : List UInt8} {pl : Int} (h : Sc.scanRes l = ([], 0, pl)) : allBl l = true := by
  obtain ⟨_, _, h3, _, _⟩ := Sc.scan_ok h
  have hc := Sc.toksRes_cov l (by rw [h3])
  rw [show (Sc.toksRes l).1 = [] by rw [h3]] at hc
  have hb : Sc.Bls l 0 l.length := hc
  unfold allBl
  rw [List.all_eq_true]
  intro x hx
  obtain ⟨j, hj, rfl⟩ := List.mem_iff_getElem.1 hx
  exact hb.2.2 j hj (by omega) hj
/-- What the law asks of the blanks ahead of the i-th token. -/
def gOk (i : Nat) (g : List UInt8) : Prop := g = [] ∨ (0 < i ∧ (g = [32] ∨ ∃ n, g = Sc.nl n))

theorem neat_at {FB : ByteArray} {ps : List (List UInt8 × Sc.Tok)} {us : List Sc.Tok} {a k : Nat} (hd : FB.data.toList = Sc.render ps [10]) (hu : us = Sc.placed ps 0) (ha : a = (Sc.render (ps.take k) []).length) (hk : k < ps.length) (hlt : k < us.length) :
    us[k].place = ((a + ps[k].1.length : Nat) : Int) ∧ (FB.extract a (a + ps[k].1.length)).data.toList = ps[k].1 ∧ a + ps[k].1.length + us[k].text.length ≤ FB.size ∧ a + ps[k].1.length + us[k].text.length = (Sc.render (ps.take (k + 1)) []).length := by
  subst hu
  have h1 := Sc.placed_get ps 0 k hk
  rw [List.getElem?_eq_getElem hlt, Option.some.injEq] at h1
  have h2 := Sc.render_at ps [10] k hk
  have h3 := Sc.render_next ps k hk
  rw [← ha] at h2 h3
  rw [h1]
  simp only
  refine ⟨by rw [Nat.zero_add, ← ha], ?_, ?_, h3.symm⟩
  · rw [Lib.extract_data, hd, h2, show a + ps[k].1.length - a = ps[k].1.length by omega, List.take_left]
  · have := congrArg List.length h2
    simp only [List.length_append, List.length_drop] at this
    have h4 : FB.size = (Sc.render ps [10]).length := by rw [← hd, Sc.lsize]
    have h5 := Sc.render_take ps [10] k
    have h6 := congrArg List.length h5
    rw [List.length_append, ← ha] at h6
    omega
theorem ne_nil_b {F : List UInt8} (h : 0 < F.length) : ((⟨F.toArray⟩ : ByteArray).toList == []) = false := by
  rw [ByteArray.toList_mk]
  cases F with
  | nil => simp at h
  | cons _ _ => rfl
theorem last_b {F : List UInt8} (h : ∃ r, F = r ++ [10]) {FB : ByteArray} (hf : FB.data.toList = F) (z : Nat) (hz : FB.size = z + 1) : ∀ h : z < FB.size, FB[z] = 10 := by
  intro hlt
  obtain ⟨r, rfl⟩ := h
  have h1 : FB[z] = FB.data.toList[z]'(by rw [Sc.lsize]; exact hlt) := by simp [ByteArray.getElem_eq_getElem_data]
  have h2 := Sc.lsize FB
  rw [h1]
  simp only [hf] at h2 ⊢
  rw [List.length_append, List.length_singleton] at h2
  have : z = r.length := by omega
  subst this
  simp
theorem gap_facts {bt : ByteArray} {k : Nat} {G : List UInt8} (h : bt.data.toList = G) (hg : gOk k G) (h0 : 0 < bt.size) : 0 < k ∧ ∃ z : Bool, (∀ j (hj : j < bt.size), ((bt[j].toNat : Int) == 9) = false ∧ ((bt[j].toNat : Int) == 10) = (decide (j = 0) && z)) ∧ (z = false → bt.size = 1) := by
  have hz := Sc.lsize bt
  have key : ∀ j (hj : j < bt.size), ∃ hj' : j < G.length, bt[j] = G[j] := by
    intro j hj
    subst h
    exact ⟨by omega, by simp [ByteArray.getElem_eq_getElem_data]⟩
  rw [h] at hz
  rcases hg with rfl | ⟨hk, rfl | ⟨n, rfl⟩⟩
  · simp at hz; omega
  · refine ⟨hk, false, fun j hj => ?_, fun _ => by rw [← hz]; rfl⟩
    obtain ⟨hj', e⟩ := key j hj
    have hj0 : j = 0 := by simp at hj'; omega
    subst hj0
    rw [e]
    exact ⟨rfl, rfl⟩
  · refine ⟨hk, true, fun j hj => ?_, fun h => by cases h⟩
    obtain ⟨hj', e⟩ := key j hj
    rw [e]
    cases j with
    | zero => exact ⟨rfl, rfl⟩
    | succ j =>
      have : (Sc.nl n)[j + 1] = 32 := by simp [Sc.nl]
      rw [this]
      exact ⟨by decide, by simp⟩
theorem neat_end {FB : ByteArray} {ps : List (List UInt8 × Sc.Tok)} {us : List Sc.Tok} {a : Nat} (hd : FB.data.toList = Sc.render ps [10]) (hl : us.length = ps.length) (ha : a = (Sc.render (ps.take us.length) []).length) : ((FB.extract a FB.size).toList == [10]) = true := by
  rw [hl, List.take_length] at ha
  have : (FB.extract a FB.size).toList = [10] := by
    rw [Lib.extract_toList, hd, Sc.render_tl, ha, List.drop_left, List.take_of_length_le]
    have h4 : FB.size = (Sc.render ps [10]).length := by rw [← hd, Sc.lsize]
    rw [h4, Sc.render_tl, List.length_append]
    simp
  rw [this]; rfl
theorem neat_le {FB : ByteArray} {ps : List (List UInt8 × Sc.Tok)} {us : List Sc.Tok} {a : Nat} (hd : FB.data.toList = Sc.render ps [10]) (hl : us.length = ps.length) (ha : a = (Sc.render (ps.take us.length) []).length) : a ≤ FB.size := by
  rw [hl, List.take_length] at ha
  have h4 : FB.size = (Sc.render ps [10]).length := by rw [← hd, Sc.lsize]
  rw [h4, Sc.render_tl, List.length_append]
  omega
set_option maxRecDepth 20000 in
set_option maxHeartbeats 8000000 in
theorem neat_loop (s : ByteArray) (n : Int) (h1 : -9223372036854775808 ≤ n) (h2 : n ≤ 9223372036854775807) (w : World) (hs : s.size ≤ maxLen) (m : Int) (hm : w.cell? ⟨0, 0, none⟩ = some (.int .i64 m)) (hml : 0 < w.heap.size)
    (ts : List Sc.Tok) (hsc : Sc.scanRes s.data.toList = (ts, 0, 0)) (ps : List (List UInt8 × Sc.Tok)) (hF : Sc.fmtT (Sc.wOf n).toNat ts = Sc.render ps [10]) (hus : Sc.scanRes (Sc.render ps [10]) = (Sc.placed ps 0, 0, 0)) (hlong : (Sc.render ps [10]).length ≤ 4096) (hg : ∀ i (hi : i < ps.length), gOk i ps[i].1) (hne : 0 < ps.length) :
    Calls Tryd.prog 8 #[.string s, .int .i64 n] w fun e w' => e = .returned (.bool true) ∧ Below w.heap.size w w' := by
  have HAB := hide (able_any w m hm hml)
  have HW := hide (fun w' => widthOf_any n h1 h2 w')
  have HF := hide (fun w' (hb : Below w.heap.size w w') => format_any s (Sc.wOf n) w' hs m ((hb.cell hml).trans hm) _ (hide (fmtD_ok hsc n)))
  unfold fmtV at HF
  rw [hF] at HF
  simp only at HF
  have hzf := wbsize (Sc.render ps [10])
  have HS2 := hide (fun w' (hb : Below w.heap.size w w') => scan_any ⟨(Sc.render ps [10]).toArray⟩ w' (by rw [hzf]; unfold maxLen; omega) m ((hb.cell hml).trans hm) _ (hide (show Sc.scanRes (⟨(Sc.render ps [10]).toArray⟩ : ByteArray).data.toList = (Sc.placed ps 0, 0, 0) by simpa using hus)))
  have hlf : 0 < (Sc.render ps [10]).length := by rw [Sc.render_tl]; simp
  have hfe : ((⟨(Sc.render ps [10]).toArray⟩ : ByteArray).toList == []) = false := ne_nil_b hlf
  have hdl : (⟨(Sc.render ps [10]).toArray⟩ : ByteArray).data.toList = Sc.render ps [10] := by simp
  have HDL := hide hdl
  have hpl := Sc.placed_len ps 0
  obtain ⟨us, hu⟩ : ∃ us, us = Sc.placed ps 0 := ⟨_, rfl⟩
  rw [← hu] at HS2 hpl
  have HU := hide hu
  have HG := hide hg
  have HLN := hide hpl
  have hne2 : ((us.length : Int) == 0) = false := beq_eq_false_iff_ne.2 (by omega)
  have hul : us.length ≤ 4096 := by rw [hu]; exact (Sc.scan_toks hus).2.1
  generalize (⟨(Sc.render ps [10]).toArray⟩ : ByteArray) = FB at *
  have hfs : FB.size ≤ 4096 := by omega
  have hfs0 : 0 < FB.size := by omega
  have hlong' : ¬ (4096 : Int) < FB.size := by omega
  clear hzf hF hsc hus hlong hlf hdl hu hg hpl hne
  generalize Sc.wOf n = wn at *
  go_enter Tryd.func8, Tryd.ntmps8
  go_wp2_with (first
    | (go_at_call 17; refine HAB.out.mono ?_; rintro e w1 ⟨rfl, hb1⟩)
    | (go_at_call 19; refine (HW.out _).mono ?_; rintro e w3 ⟨rfl, hw3⟩; subst w3)
    | (go_at_call 18; refine (HF.out _ hb1).mono ?_; rintro e w4 ⟨rfl, hb4⟩; have HB4 := hide (hb1.trans (hb4.mono hb1.size)); clear hb4)
    | (go_at_call 11; refine (HS2.out _ HB4.out).mono ?_; rintro e w5 ⟨v, rfl, ho, hb5, -⟩; obtain ⟨va, vc, rfl⟩ := ho.shape; have HB5 := hide (HB4.out.trans (hb5.mono HB4.out.size)); have HO := hide ho; clear ho hb5))
  go_loopw [12, 13] (fun x i wr => ∃ (k a : Nat), k ≤ us.length ∧ a ≤ 4096 ∧ x = .int .i64 a ∧ i = .int .i64 k ∧ Below w5.heap.size w5 wr ∧ Hid (a = (Sc.render (ps.take k) []).length)) (fun _ i _ => us.length - (intOf i).toNat)
  case atStart => exact ⟨0, 0, by omega, by omega, rfl, rfl, Below.refl _ _, hide rfl⟩
  case round =>
    obtain ⟨k, a, g1, g2, rfl, rfl, hbel, HA⟩ := hrel
    by_cases hlt : k < us.length
    · obtain ⟨g, hg1, -, hg3, hg4, hcap, c0, c1, c2, c3⟩ := HO.out.at k hlt
      subst hg1
      have cc := fun (a : Addr) (ha : a.block < w5.heap.size) => hbel.cell (p := a) ha
      have d0 := (cc ⟨g, k * 4, none⟩ hg4).trans c0
      have d1 := (cc ⟨g, k * 4 + 1, none⟩ hg4).trans c1
      have d2 := (cc ⟨g, k * 4 + 2, none⟩ hg4).trans c2
      have d3 := (cc ⟨g, k * 4 + 3, none⟩ hg4).trans c3
      clear cc c0 c1 c2 c3
      have hkp : k < ps.length := by have := HLN.out; omega
      obtain ⟨bt, hbt⟩ : ∃ bt, bt = FB.extract a (a + ps[k].1.length) := ⟨_, rfl⟩
      have HN := neat_at HDL.out HU.out HA.out hkp hlt
      obtain ⟨hpl, hbl, hbe, hnx⟩ := HN
      rw [← hbt] at hbl
      have HNX := hide hnx
      clear hnx
      obtain ⟨⟨tk, tt, tp, tb⟩, ht⟩ : ∃ t, t = us[k] := ⟨_, rfl⟩
      rw [← ht] at d0 d1 d2 d3 hpl HNX hbe
      simp only at d0 d1 d2 d3 hpl hbe
      subst hpl
      clear ht
      have hsl : ∀ W : World, (Instr.slice 9 (.string FB) (some (.int .i64 (a : Int))) (some (.int .i64 ((a + ps[k].1.length : Nat) : Int))) none).run Tryd.prog W = .ok (.string bt) W := by
        intro W
        rw [run_slice_string W 9 FB .i64 .i64 (a : Int) ((a + ps[k].1.length : Nat) : Int) Tryd.underlying9 (by omega) (by omega) (by omega), Int.toNat_natCast, Int.toNat_natCast, ← hbt]
      have hgk := HG.out k hkp
      have hbz : bt.size = ps[k].1.length := by rw [← Sc.lsize, hbl]
      have HMN : Hid (min (a + bt.size) FB.size - a = bt.size) := hide (by omega)
      have HZ : Hid (0 < bt.size → 0 < k ∧ ∃ z : Bool, (∀ j (hj : j < bt.size), ((bt[j].toNat : Int) == 9) = false ∧ ((bt[j].toNat : Int) == 10) = (decide (j = 0) && z)) ∧ (z = false → bt.size = 1)) := hide (fun h0 => gap_facts hbl hgk h0)
      rw [← hbz] at d2 hbt hbe HNX
      simp only at HNX
      have HBT := hide hbt
      clear hbl hgk hsl hbz hbt
      have hzb : bt.size ≤ 4096 := by omega
      have hlti : (k : Int) < (us.length : Int) := by omega
      go_wp2_with fail
      rw [← HBT.out, HMN.out]
      clear HBT HMN
      by_cases h0 : bt.size = 0
      · rw [h0] at hbe HNX ⊢
        clear HZ
        go_loop [16, 17] (fun nw jj => nw = .int .i64 0 ∧ jj = .int .i64 0) (fun _ _ => 0)
        case atStart => exact ⟨rfl, rfl⟩
        case round =>
          obtain ⟨rfl, rfl⟩ := hrel
          cases hk0 : ((k : Int) == 0) with
          | true =>
            go_wp2_with fail
            go_quiet (fail)
            go_wp2
            go_roundw
            case rel => exact ⟨k + 1, a + 0 + tt.length, by omega, by omega, by go_num, by go_num, below_drewN hbel _, hide HNX.out⟩
            case measure => simp [intOf]; omega
          | false =>
            go_wp2_with fail
            go_quiet (fail)
            go_wp2
            go_roundw
            case rel => exact ⟨k + 1, a + 0 + tt.length, by omega, by omega, by go_num, by go_num, below_drewN hbel _, hide HNX.out⟩
            case measure => simp [intOf]; omega
      · obtain ⟨hk, z, hf, hz1⟩ := HZ.out (by omega)
        have HF2 := hide hf
        have hk0 : ((k : Int) == 0) = false := beq_eq_false_iff_ne.2 (by omega)
        clear hf HZ
        cases z with
        | false =>
          have hb1 := hz1 rfl
          clear hz1
          go_loop [16, 17] (fun nw jj => ∃ j : Nat, j ≤ bt.size ∧ nw = .int .i64 0 ∧ jj = .int .i64 j) (fun _ jj => bt.size - (intOf jj).toNat)
          case atStart => exact ⟨0, by omega, rfl, rfl⟩
          case round =>
            obtain ⟨j, hj, rfl, rfl⟩ := hrel
            by_cases hlt2 : j < bt.size
            · obtain ⟨p1, p2⟩ := HF2.out j hlt2
              rw [Bool.and_false] at p2
              go_wp2
              go_round
              case rel => exact ⟨j + 1, by omega, rfl, by go_num⟩
              case measure => simp [intOf]; omega
            · have hje : j = 1 := by omega
              subst hje
              have hn1 : ¬ (1 : Int) < bt.size := by omega
              go_wp2_with fail
              go_quiet (fail)
              go_wp2
              go_roundw
              case rel => exact ⟨k + 1, a + bt.size + tt.length, by omega, by omega, by go_num, by go_num, below_drewN hbel _, hide HNX.out⟩
              case measure => simp [intOf]; omega
        | true =>
          clear hz1
          go_loop [16, 17] (fun nw jj => ∃ j : Nat, j ≤ bt.size ∧ nw = .int .i64 (if 0 < j then 1 else 0) ∧ jj = .int .i64 j) (fun _ jj => bt.size - (intOf jj).toNat)
          case atStart => exact ⟨0, by omega, rfl, rfl⟩
          case round =>
            obtain ⟨j, hj, rfl, rfl⟩ := hrel
            by_cases hlt2 : j < bt.size
            · obtain ⟨p1, p2⟩ := HF2.out j hlt2
              by_cases hj0 : j = 0
              · subst hj0
                rw [show (decide (0 = 0) && true) = true from rfl] at p2
                rw [if_neg (by omega)]
                go_wp2
                go_round
                case rel => exact ⟨1, by omega, rfl, rfl⟩
                case measure => simp [intOf]; omega
              · rw [show (decide (j = 0) && true) = false by simp [hj0]] at p2
                rw [if_pos (by omega)]
                go_wp2
                go_round
                case rel => exact ⟨j + 1, by omega, by rw [if_pos (by omega)], by go_num⟩
                case measure => simp [intOf]; omega
            · rw [if_pos (by omega)]
              go_wp2_with fail
              go_quiet (fail)
              go_wp2
              go_roundw
              case rel => exact ⟨k + 1, a + bt.size + tt.length, by omega, by omega, by go_num, by go_num, below_drewN hbel _, hide HNX.out⟩
              case measure => simp [intOf]; omega
    · have hke : k = us.length := by omega
      subst hke
      have hfin : ((FB.extract a FB.size).toList == [10]) = true := neat_end HDL.out HLN.out HA.out
      have hale : a ≤ FB.size := by have := neat_le HDL.out HLN.out HA.out; omega
      have HB6 := hide (HB5.out.trans (hbel.mono HB5.out.size))
      have hc2 : (convert 46 9 (.slice (some ⟨wr.heap.size, 0, none⟩) 1 1)).run Tryd.prog (wr.alloc (Obj.cells #[.int .u8 10] 5)).drew = .ok (.string ⟨#[10]⟩) (wr.alloc (Obj.cells #[.int .u8 10] 5)).drew := run_convert_bytes_back (P := Tryd.prog) (wr.alloc (Obj.cells #[.int .u8 10] 5)).drew 46 9 5 ⟨wr.heap.size, 0, none⟩ 1 [10] Tryd.underlying46 (by kernel_rfl) Tryd.underlying9 (fun j hj => by
          have hj : j = 0 := by simpa using hj
          subst hj
          have h10 : (wr.alloc (Obj.cells #[.int .u8 10] 5)).cell? (Addr.add ⟨wr.heap.size, 0, none⟩ 0) = some (.int .u8 10) := by simp [Addr.add]
          exact h10)
      go_wp2
      go_region
      all_goals go_wp2
      all_goals go_ret
      all_goals exact ⟨rfl, Below.drew (HB6.out.alloc HB6.out.size _)⟩

set_option maxRecDepth 20000 in
set_option maxHeartbeats 8000000 in
theorem neat_any (s : ByteArray) (n : Int) (h1 : -9223372036854775808 ≤ n) (h2 : n ≤ 9223372036854775807) (w : World) (hs : s.size ≤ maxLen) (m : Int) (hm : w.cell? ⟨0, 0, none⟩ = some (.int .i64 m)) (hml : 0 < w.heap.size) :
    Calls Tryd.prog 8 #[.string s, .int .i64 n] w fun e w' => e = .returned (.bool true) ∧ Below w.heap.size w w' := by
  have HAB := hide (able_any w m hm hml)
  obtain ⟨ts, er, pl, hsc⟩ : ∃ ts er pl, Sc.scanRes s.data.toList = (ts, er, pl) := ⟨_, _, _, rfl⟩
  have HW := hide (fun w' => widthOf_any n h1 h2 w')
  by_cases her : er = 0
  · subst her
    have hpl : pl = 0 := (Sc.scan_ok hsc).2.2.2.2
    subst hpl
    have HF := hide (fun w' (hb : Below w.heap.size w w') => format_any s (Sc.wOf n) w' hs m ((hb.cell hml).trans hm) _ (hide (fmtD_ok hsc n)))
    unfold fmtV at HF
    have hfl := fmtT_len hsc (Sc.wOf n).toNat
    rcases Sc.fmt_pieces hsc (Sc.wOf n).toNat with ⟨e1, e2⟩ | ⟨ps, hne, e2, -, e4, e5, e6, t0, r0, e7⟩
    · rw [e2] at HF
      subst e1
      have hs4 : s.size ≤ 4096 := by rw [← Sc.lsize]; exact (Sc.scan_ok hsc).1
      have HBL : Hid (∀ W, Calls Tryd.prog 16 #[.string s] W fun e w' => e = .returned (.bool true) ∧ w' = W) := by
        refine hide (fun W => ?_)
        have := blanks_any s W hs4
        rw [no_toks hsc] at this
        exact this
      simp only at HF
      clear hsc hfl e2
      generalize Sc.wOf n = wn at *
      go_enter Tryd.func8, Tryd.ntmps8
      go_wp2_with (first
        | (go_at_call 17; refine HAB.out.mono ?_; rintro e w1 ⟨rfl, hb1⟩)
        | (go_at_call 19; refine (HW.out _).mono ?_; rintro e w3 ⟨rfl, hw3⟩; subst w3)
        | (go_at_call 18; refine (HF.out _ hb1).mono ?_; rintro e w4 ⟨rfl, hb4⟩; have HB4 := hide (hb1.trans (hb4.mono hb1.size)); clear hb4)
        | (go_at_call 16; refine (HBL.out _).mono ?_; rintro e w5 ⟨rfl, hw5⟩; subst w5))
      go_ret
      exact ⟨rfl, HB4.out⟩
    · have hlen : 0 < ps.length := by rw [e7]; simp
      by_cases hlong : 4096 < (Sc.render ps [10]).length
      · rw [e2] at HF hfl
        simp only at HF
        have hzf := wbsize (Sc.render ps [10])
        have hfe := ne_nil_b (F := Sc.render ps [10]) (by omega)
        obtain ⟨z, hz⟩ : ∃ z, (Sc.render ps [10]).length = z + 1 := ⟨(Sc.render ps [10]).length - 1, by omega⟩
        have hla := last_b (F := Sc.render ps [10]) ⟨_, Sc.render_tl _ _⟩ (FB := ⟨(Sc.render ps [10]).toArray⟩) (by simp) z (by rw [hzf, hz])
        generalize (⟨(Sc.render ps [10]).toArray⟩ : ByteArray) = FB at *
        rw [← hzf] at hlong hfl hz
        have hlong' : (4096 : Int) < FB.size := by omega
        have hlz := hla (by omega)
        have hix : ((FB.size : Int) - 1) = (z : Int) := by omega
        clear hzf hsc e2 e4 e5 e6 e7 hla
        generalize Sc.wOf n = wn at *
        go_enter Tryd.func8, Tryd.ntmps8
        go_wp2_with (first
          | (go_at_call 17; refine HAB.out.mono ?_; rintro e w1 ⟨rfl, hb1⟩)
          | (go_at_call 19; refine (HW.out _).mono ?_; rintro e w3 ⟨rfl, hw3⟩; subst w3)
          | (go_at_call 18; refine (HF.out _ hb1).mono ?_; rintro e w4 ⟨rfl, hb4⟩; have HB4 := hide (hb1.trans (hb4.mono hb1.size)); clear hb4))
        go_ret
        exact ⟨rfl, HB4.out⟩
      · have hg : ∀ i (hi : i < ps.length), gOk i ps[i].1 := by
          intro i hi
          rcases e6 ps[i] (List.getElem_mem hi) with h | h
          · exact .inl h
          · by_cases h0 : i = 0
            · subst h0
              exact .inl (by simp [e7])
            · exact .inr ⟨by omega, h⟩
        exact neat_loop s n h1 h2 w hs m hm hml ts hsc ps e2 (Sc.scan_render hsc ps [10] (by rw [e4, Sc.erase_erase]) e5 (by omega)) (by omega) hg hlen
  · have HF := hide (fun w' (hb : Below w.heap.size w w') => format_any s (Sc.wOf n) w' hs m ((hb.cell hml).trans hm) _ (hide (fmtD_bad hsc her n)))
    unfold fmtV at HF
    have hbe : (er == 0) = false := beq_eq_false_iff_ne.2 her
    have hbn : (er != 0) = true := by rw [bne, hbe]; rfl
    clear her hsc
    generalize Sc.wOf n = wn at *
    go_enter Tryd.func8, Tryd.ntmps8
    go_wp2_with (first
      | (go_at_call 17; refine HAB.out.mono ?_; rintro e w1 ⟨rfl, hb1⟩)
      | (go_at_call 19; refine (HW.out _).mono ?_; rintro e w3 ⟨rfl, hw3⟩; subst w3)
      | (go_at_call 18; refine (HF.out _ hb1).mono ?_; rintro e w4 ⟨rfl, hb4⟩; have HB4 := hide (hb1.trans (hb4.mono hb1.size)); clear hb4))
    go_ret
    exact ⟨rfl, HB4.out⟩
end Go.Proofs.YtoieklacpkahbaaDoor
namespace Go.Proofs.YtoieklacpkahbaaDoor
open Go.ChangeShapes Go.WideShapes Go.ChangeAt Go.RowKit
open Go.ChangeMaps (open_string shut_string)
namespace Ne

theorem wf_i64 {n : Int} (h : (Lit.int .i64 n).wf = true) : -9223372036854775808 ≤ n ∧ n ≤ 9223372036854775807 := by
  simp only [Lit.wf, IntKind.min, IntKind.max, IntKind.signed, IntKind.bits, Bool.and_eq_true, decide_eq_true_eq, if_true] at h
  omega
theorem own : ownKnob Tryd.prog.godebug = none := by kernel_rfl

set_option maxRecDepth 100000 in
theorem contract (H : Type) (enc : TypeId × Value → H) (W : World) (base : Nat) (args : Array Value) (ds gs : List (DataW H)) (before : List MemPlace)
    (hval : ∀ (j : Nat) t v, Tryd.f8.params[j]? = some t → args[j]? = some v → Value.okWide Tryd.prog W .any base t v)
    (hW : DataW.Whole enc Tryd.prog Tryd.f8.params.toList Rows.neatSpec.vars false W args.toList ds gs before) (hsh : W.ShapedOpen Tryd.prog) :
    Calls Tryd.prog 8 args W fun e W' => ∃ v, e = .returned v ∧ Rows.neatSpec.post enc Tryd.prog Tryd.f8 false true false false W args v W' := by
  have hW' := hW
  obtain ⟨p, q, hA0, hV, rfl, hfz, hnd⟩ := hW
  have hA : DataW.TrodAll enc Tryd.prog W 0 (fun _ => true) true Tryd.f8.params.toList args.toList ds p := hA0
  rw [Tryd.params8] at hA hval
  obtain ⟨v0, v1, d0, d1, p0, p1, rfl, rfl, rfl, h0, h1⟩ := trodAll_two hA
  obtain ⟨rfl, rfl⟩ := trodVars_none hV
  obtain ⟨s, rfl, rfl, rfl, hs⟩ := open_string Tryd.underlying9 (hval 0 9 v0 rfl rfl) h0
  obtain ⟨n1, rfl, rfl, rfl, hn1⟩ := open_int Tryd.underlying3 (hval 1 3 v1 rfl rfl) h1
  have hr1 : -9223372036854775808 ≤ n1 ∧ n1 ≤ 9223372036854775807 := wf_i64 hn1
  clear hA0
  simp only [List.append_nil] at hW'
  obtain ⟨m, hm⟩ := Tryd.laysM146.s1_3 W hsh
  have hm : W.cell? ⟨0, 0, none⟩ = some (.int .i64 m) := hm
  refine (neat_any s n1 hr1.1 hr1.2 W hs m hm (World.block_lt_of_cell? W _ hm)).mono fun e W' ⟨he, hb⟩ => ?_
  subst he
  exact ⟨_, rfl, _, _, _, [], [], [], hW', trodAll_mk1 (shut_bool Tryd.underlying4 _), trodAll_mk2 (shut_string Tryd.underlying9 hs) (shut_int Tryd.underlying3 hn1), rfl, hb.frame _, fun h => by cases h⟩

theorem laid_met (os : Os) (args : Array Value) : laidMetH Tryd.prog Rows.neatRow.laid ((World.laidAll Tryd.prog os Rows.neatRow.laid).forCall (fun _ _ => 0) ⟨#[], args, []⟩).memory := by
  rw [MakeChecks.laidMetH_plain _ _ _ (by kernel_rfl)]
  exact laidMet_laidAll _ (by kernel_rfl) (by kernel_rfl)
theorem reads0 (os : Os) {H : Type} (enc : TypeId × Value → H) : ∃ places, DataW.whole enc Tryd.prog ((World.laidAll Tryd.prog os Rows.neatRow.laid).forCall (fun _ _ => 0) ⟨#[], #[.string ⟨#[]⟩, .int .i64 1], []⟩).memory Tryd.f8.params.toList Rows.neatSpec.vars false #[Value.string ⟨#[]⟩, .int .i64 1].toList 8 = some ([.lit (.string []), .lit (.int .i64 1)], [], places) :=
  ⟨[], by kernel_rfl⟩

set_option maxRecDepth 100000 in
theorem lifted (os : Os) (started : os.Started) (H : Type) (enc : TypeId × Value → H) (F : Stop.Interp) :
    ReturnsInHanded {} Tryd.checked os 8 .any ((OpenSpec.ofChange Rows.neatSpec).preRow enc Tryd.prog Tryd.f8 Rows.neatRow.domain false Rows.neatRow.laid) (((OpenSpec.ofChange Rows.neatSpec).at F).post enc Tryd.prog Tryd.f8 false true false false) := by
  obtain ⟨places, hx⟩ := reads0 os enc
  refine returnsInHanded_of_row (C := Tryd.checked) (s := OpenSpec.ofChange Rows.neatSpec) own started (by kernel_rfl) Tryd.func8
    (witness_row_at (enc := enc) (C := Tryd.checked) false (World.laidAll Tryd.prog os Rows.neatRow.laid) #[.string ⟨#[]⟩, .int .i64 1] (World.laidAll_os _ _ _) (by kernel_rfl) (by kernel_rfl) (by kernel_rfl)
      (OpenSpec.preRow_of_cond 8 hx (by kernel_rfl) (fun k hk => by cases hk) (by kernel_rfl) (laid_met os _))) ?_
  intro W base args ds gs before hval hW _ _ _ _ hsh _
  exact contract H enc W base args ds gs before hval hW hsh

theorem said : Rows.NeatSaid :=
  OpenClaim.holds_of_cond 8 Tryd.f8 rfl rfl rfl rfl rfl rfl rfl ⟨rfl, rfl, rfl, rfl, rfl⟩ rfl rfl rfl rfl rfl (by kernel_rfl) Tryd.func8 (by kernel_rfl)
    (of_decide_eq_true (by kernel_rfl)) (by unfold Func.isWrapper; rw [if_neg (of_decide_eq_false (by kernel_rfl))]; exact ⟨rfl, rfl⟩)
    (fun os started H enc _ F => by rw [OpenClaim.pre_eq_preRow]; exact lifted os started H enc F)

theorem plain (f : FuncId) (fn : Func) (hf : Tryd.pinned.checked.prog.funcNamed Rows.neatRow.func = some f) (hfn : Tryd.pinned.checked.prog.funcs[f]? = some fn) :
    false = Tryd.pinned.checked.prog.looks [] ∧ ∀ (j : Nat) t, fn.params[j]? = some t → Tryd.pinned.checked.prog.wantsStandIn t = false := by
  obtain rfl : f = 8 := Option.some.inj ((show Tryd.prog.funcNamed Rows.neatRow.func = some 8 by kernel_rfl).symm.trans hf) |>.symm
  obtain rfl : fn = Tryd.f8 := (Option.some.inj (Tryd.func8.symm.trans hfn)).symm
  refine ⟨by kernel_rfl, fun j t ht => ?_⟩
  rw [Tryd.params8] at ht
  have hm := Array.mem_of_getElem? ht
  simp only [List.mem_toArray, List.mem_cons, List.not_mem_nil, or_false] at hm
  rcases hm with rfl | rfl
  · exact (show Tryd.prog.wantsStandIn 9 = false by kernel_rfl)
  · exact (show Tryd.prog.wantsStandIn 3 = false by kernel_rfl)
end Ne

/-- The card of Neat. -/
theorem neat_holds : Rows.NeatCardSaid :=
  Claim7.holds_tied_plain_at .later [] _ _ _ _ Ne.said (fun _ h => by cases h) (by kernel_rfl) (fun _ h => by cases h) neat_row_tie rfl ⟨rfl, rfl⟩ (by kernel_rfl) rfl Ne.plain (by kernel_rfl)
#print axioms neat_holds
end Go.Proofs.YtoieklacpkahbaaDoor
