/- Walks: the second layout's end and column. -/
/- Walks: the second layout's flat. -/
/- Walks: the second layout's behind and tail. -/
/- Walks: the second layout's line. -/
/- Walks: the second layout's one. -/
import Derived.Test.YtoieklacpkahbaaGreatDoorWalkC
import Derived.Test.YtoieklacpkahbaaGreatDoorWalkG
import Derived.Test.YtoieklacpkahbaaGreatDoorPlainM
import Derived.Laws.IdiomStrings
namespace Go.Proofs.YtoieklacpkahbaaGreatDoor
open Go.RowKit

set_option maxRecDepth 20000 in
set_option maxHeartbeats 1000000 in
theorem rend_any : ∀ (e : Sc.El), e.WF → ∀ (ao : Option Addr) (cap : Nat) (ts : List Sc.Tok) (B0 : Nat) (w : World) (i : Nat) (rest : List Sc.Tok), Owns w B0 (.slice ao ts.length cap) ts → ts.length ≤ 4096 → (ts.drop i).map Sc.erase = e.toks ++ rest →
    Calls Tryz.prog 27 #[.slice ao ts.length cap, .int .i64 i] w fun x w' => x = .returned (.int .i64 (i + e.toks.length : Nat)) ∧ w' = w
  | .leaf t, hw, ao, cap, ts, B0, w, i, rest, h, hn, hd => by
    have hw : t.kind = 1 ∨ t.kind = 5 := hw
    obtain ⟨hi, h1, _, _, _⟩ := Sc.tok_at hd
    obtain ⟨g, hg1, _, _, hg4, hcap, c0, _, _, _⟩ := h.at i hi
    subst hg1
    rw [h1] at c0
    have hlen : (Sc.El.leaf t).toks.length = 1 := rfl
    rw [hlen]
    clear hd h1 hlen
    generalize t.kind = kk at hw c0
    have k4 : (kk == 4) = false := by simp; omega
    have k2 : (kk != 2) = true := by simp; omega
    clear hw
    go_enter Tryz.func27, Tryz.ntmps27
    go_wp2
    go_ret
    exact ⟨ret_int (by omega), rfl⟩
  | .pre t e, hw, ao, cap, ts, B0, w, i, rest, h, hn, hd => by
    have h4 := hw.1
    rw [Sc.El.toks] at hd
    obtain ⟨hi, h1, _, _, h2⟩ := Sc.tok_at hd
    have HIH := hide (rend_any e hw.2.2 ao cap ts B0 w (i + 1) rest h hn h2)
    obtain ⟨g, hg1, _, _, hg4, hcap, c0, _, _, _⟩ := h.at i hi
    subst hg1
    rw [h1, h4] at c0
    have hlen : (Sc.El.pre t e).toks.length = 1 + e.toks.length := by rw [Sc.El.toks, List.length_cons]; omega
    rw [hlen]
    clear hd h1 hlen h2 h4 hw
    go_enter Tryz.func27, Tryz.ntmps27
    go_wp2_with (go_at_call 27; refine (HIH.out).mono ?_; rintro e w1 ⟨rfl, hw1⟩; subst w1)
    go_ret
    exact ⟨ret_int (by omega), rfl⟩
  | .lst o es c, hw, ao, cap, ts, B0, w, i, rest, h, hn, hd => by
    have hlast := Sc.lst_net_all hw
    have hin := fun k h0 hk => Sc.lst_net hw k h0 hk
    have h2 := hw.1
    have hget := fun j hj => Sc.tok_get hd j hj
    have hpos : 0 < (Sc.El.lst o es c).toks.length := by simp [Sc.El.toks]
    have hk0 : (Sc.El.lst o es c).toks[0].kind = 2 := h2
    generalize (Sc.El.lst o es c).toks = T at hlast hin hget hpos hk0 ⊢
    clear hd hw h2
    obtain ⟨hi, hk0', _, _⟩ := hget 0 hpos
    rw [hk0] at hk0'
    simp only [Nat.add_zero] at hi hk0'
    obtain ⟨hil, _⟩ := hget (T.length - 1) (by omega)
    obtain ⟨g, hg1, _, _, hg4, hcap, c0, _, _, _⟩ := h.at i hi
    subst hg1
    rw [hk0'] at c0
    have HIN := hide hin; have HGET := hide hget; have HLAST := hide hlast
    clear hin hget hlast hk0 hk0'
    go_enter Tryz.func27, Tryz.ntmps27
    go_wp2
    clear c0
    go_loop [5, 6] (fun d x => ∃ (k : Nat), k < T.length ∧ x = .int .i64 (i + k : Nat) ∧ d = .int .i64 (Sc.net (T.take k))) (fun _ x => 5000 - (intOf x).toNat)
    case atStart => exact ⟨0, by omega, rfl, rfl⟩
    case round =>
      obtain ⟨k, hk, rfl, rfl⟩ := hrel
      obtain ⟨hik, hkk, _, _⟩ := HGET.out k hk
      obtain ⟨g', hg1, _, _, _, _, c0, _, _, _⟩ := h.at (i + k) hik
      injection hg1 with hg1; injection hg1 with hg1; subst hg1
      rw [hkk] at c0
      have hnt := Sc.net_take T k hk
      have hb1 := Sc.net_le (T.take k)
      rw [List.length_take] at hb1
      have hend : k + 1 = T.length → Sc.net (T.take k) + Sc.stp T[k] = 0 := by
        intro e; rw [← hnt, e, List.take_length]; exact HLAST.out
      have hgo : k + 1 < T.length → 1 ≤ Sc.net (T.take k) + Sc.stp T[k] := by
        intro e; rw [← hnt]; exact HIN.out (k + 1) (by omega) e
      have HNT := hide hnt
      clear hnt hkk
      unfold Sc.stp at hend hgo HNT
      generalize T[k].kind = kk at c0 hend hgo HNT
      generalize Sc.net (T.take k) = d at hb1 hend hgo HNT ⊢
      cases k2 : (kk == 2) with
      | true =>
        have e2 : kk = 2 := by simpa using k2
        have k3 : (kk == 3) = false := by rw [e2]; rfl
        rw [if_pos e2, if_neg (by omega : ¬ kk = 3)] at hend hgo HNT
        clear e2
        by_cases hf : k + 1 = T.length
        · have hq : (d + 1 == 0) = true := by have := hend hf; simp; omega
          go_wp2
          go_ret
          exact ⟨ret_int (by omega), rfl⟩
        · have hq : (d + 1 == 0) = false := by have := hgo (by omega); simp; omega
          have HE : Hid (Sc.net (T.take (k + 1)) = d + 1) := by rw [HNT.out]; exact hide (by omega)
          clear HNT hend hgo
          go_wp2
          go_round
          case rel => exact ⟨k + 1, by omega, by go_num, by rw [HE.out]⟩
          case measure => simp [intOf]; omega
      | false =>
      have n2 : ¬ kk = 2 := by simpa using k2
      cases k3 : (kk == 3) with
      | true =>
        have e3 : kk = 3 := by simpa using k3
        rw [if_neg n2, if_pos e3] at hend hgo HNT
        clear e3 n2
        by_cases hf : k + 1 = T.length
        · have hq : (d - 1 == 0) = true := by have := hend hf; simp; omega
          go_wp2
          go_ret
          exact ⟨ret_int (by omega), rfl⟩
        · have hq : (d - 1 == 0) = false := by have := hgo (by omega); simp; omega
          have HE : Hid (Sc.net (T.take (k + 1)) = d - 1) := by rw [HNT.out]; exact hide (by omega)
          clear HNT hend hgo
          go_wp2
          go_round
          case rel => exact ⟨k + 1, by omega, by go_num, by rw [HE.out]⟩
          case measure => simp [intOf]; omega
      | false =>
        have n3 : ¬ kk = 3 := by simpa using k3
        rw [if_neg n2, if_neg n3] at hend hgo HNT
        clear n2 n3
        by_cases hf : k + 1 = T.length
        · have hq : (d == 0) = true := by have := hend hf; simp; omega
          go_wp2
          go_ret
          exact ⟨ret_int (by omega), rfl⟩
        · have hq : (d == 0) = false := by have := hgo (by omega); simp; omega
          have HE : Hid (Sc.net (T.take (k + 1)) = d) := by rw [HNT.out]; exact hide (by omega)
          clear HNT hend hgo
          go_wp2
          go_round
          case rel => exact ⟨k + 1, by omega, by go_num, by rw [HE.out]⟩
          case measure => simp [intOf]; omega

set_option maxHeartbeats 400000 in
theorem column_any (l : List UInt8) (w : World) (hs : l.length ≤ 1000000000000) :
    Calls Tryz.prog 62 #[.string ⟨l.toArray⟩] w fun e w' => e = .returned (.int .i64 (Sc.colB 0 l : Nat)) ∧ w' = w := by
  obtain ⟨s, hS⟩ : ∃ s : ByteArray, s = ⟨l.toArray⟩ := ⟨_, rfl⟩
  have hl : s.data.toList = l := by rw [hS]
  rw [← hS]
  have hz : s.size = l.length := by rw [← hl]; exact (Sc.lsize s).symm
  clear hS
  go_enter Tryz.func62, Tryz.ntmps62
  go_wp2
  go_loop [3] (fun x => ∃ k m : Nat, s.size = k + m ∧ x = .int .i64 k ∧ Hid (Sc.colB 0 l = k + Sc.colB 0 (l.take m))) (fun x => s.size - (intOf x).toNat)
  case atStart => exact ⟨0, s.size, by omega, rfl, hide (by rw [List.take_of_length_le (by omega)]; omega)⟩
  case round =>
    obtain ⟨k, m, hk, rfl, HK⟩ := hrel
    cases m with
    | zero =>
      have HE : Hid (Sc.colB 0 l = k) := by rw [HK.out]; exact hide rfl
      clear HK
      go_wp2
      go_ret
      exact ⟨ret_int (by rw [HE.out]), rfl⟩
    | succ m =>
      have hstep := Sc.colB_take l m (by omega)
      have hge : l[m]'(by omega) = s[m]'(by omega) := by
        have : l[m]'(by omega) = s.data.toList[m]'(by rw [hl]; omega) := by simp only [hl]
        rw [this]; rfl
      rw [hge] at hstep
      have hbd : l.length - 1 - k < s.size := by omega
      have hix : l.length - 1 - k = m := by omega
      by_cases h10 : s[m]'(by omega) = 10
      · have hq : (((s[l.length - 1 - k]'hbd).toNat : Int) != 10) = false := by simp only [hix]; rw [h10]; rfl
        rw [if_pos h10] at hstep
        have HE : Hid (Sc.colB 0 l = k) := by rw [HK.out, hstep]; exact hide rfl
        clear hstep h10 hge HK hix
        go_wp2
        go_ret
        exact ⟨ret_int (by rw [HE.out]), rfl⟩
      · have hq : (((s[l.length - 1 - k]'hbd).toNat : Int) != 10) = true := by simp only [hix, bne_iff_ne, ne_eq]; intro e; exact h10 (UInt8.toNat_inj.1 (by show (s[m]'(by omega)).toNat = 10; omega))
        rw [if_neg h10] at hstep
        have HE : Hid (Sc.colB 0 l = (k + 1 : Nat) + Sc.colB 0 (l.take m)) := by rw [HK.out, hstep]; exact hide (by omega)
        clear hstep h10 hge HK hix
        go_wp2
        go_round
        case rel => exact ⟨k + 1, m, by omega, by go_num, HE⟩
        case measure => simp [intOf]; omega
end Go.Proofs.YtoieklacpkahbaaGreatDoor
namespace Go.Proofs.YtoieklacpkahbaaGreatDoor
open Go.RowKit

theorem bsize (x : List UInt8) : (⟨x.toArray⟩ : ByteArray).size = x.length := by simp [ByteArray.size]
theorem bapp (x y : List UInt8) : (⟨x.toArray⟩ : ByteArray) ++ (⟨y.toArray⟩ : ByteArray) = ⟨(x ++ y).toArray⟩ := ByteArray.mk_append_mk x y
theorem bapp1 (x : List UInt8) (a : UInt8) : (⟨x.toArray⟩ : ByteArray) ++ (⟨#[a]⟩ : ByteArray) = ⟨(x ++ [a]).toArray⟩ := ByteArray.mk_append_mk x [a]

set_option maxRecDepth 20000 in
set_option maxHeartbeats 2000000 in
theorem rflat_any (T : List Sc.Tok) (ao : Option Addr) (cap : Nat) (ts : List Sc.Tok) (B0 : Nat) (w : World) (i : Nat) (rest : List Sc.Tok) (h : Owns w B0 (.slice ao ts.length cap) ts) (hn : ts.length ≤ 4096) (hd : (ts.drop i).map Sc.erase = T ++ rest) (hT : 0 < T.length) (hW : Sc.wt T ≤ 20000) :
    Calls Tryz.prog 61 #[.slice ao ts.length cap, .int .i64 i, .int .i64 (i + T.length : Nat)] w fun e w' => e = .returned (.tuple #[.string ⟨(if Sc.hasC T then [] else Sc.flS T T.length).toArray⟩, .bool (!Sc.hasC T)]) ∧ w' = w := by
  have HGET := hide (fun j hj => Sc.tok_get hd j hj)
  obtain ⟨hi, _⟩ := HGET.out (T.length - 1) (by omega)
  clear hd
  obtain ⟨X, R, HX1, HX2, HXR⟩ : ∃ (X : List UInt8) (R : Bool), Hid (Sc.hasC T = true → X = [] ∧ R = false) ∧ Hid (Sc.hasC T = false → X = Sc.flS T T.length ∧ R = true) ∧ Hid ((if Sc.hasC T then [] else Sc.flS T T.length) = X ∧ (!Sc.hasC T) = R) :=
    ⟨_, _, hide (fun h => by rw [h]; exact ⟨rfl, rfl⟩), hide (fun h => by rw [h]; exact ⟨rfl, rfl⟩), hide ⟨rfl, rfl⟩⟩
  rw [HXR.out.1, HXR.out.2]
  clear HXR
  go_enter Tryz.func61, Tryz.ntmps61
  go_wp2
  go_loop [8, 9] (fun s x => ∃ (k : Nat) (b : ByteArray), k ≤ T.length ∧ x = .int .i64 (i + k : Nat) ∧ s = .string b ∧ b.size ≤ 20000 ∧ Hid (b = ⟨(Sc.flS T k).toArray⟩) ∧ Hid (∀ j (hj : j < T.length), j < k → T[j].kind ≠ 5)) (fun _ x => 5000 - (intOf x).toNat)
  case atStart => exact ⟨0, _, by omega, rfl, rfl, by decide, hide rfl, hide (fun j _ h => by omega)⟩
  case round =>
    obtain ⟨k, b, hk, rfl, rfl, hbs, HB, HN⟩ := hrel
    by_cases hlt : k < T.length
    · obtain ⟨hik, hkk, hkt, -⟩ := HGET.out k hlt
      obtain ⟨g, hg1, -, -, hg4, hcap, c0, c1, -, -⟩ := h.at (i + k) hik
      subst hg1
      have HT5 := hide (fun h5 => Sc.hasC_hit T k hlt h5)
      have hl1 := Sc.flS_len T (k + 1) (by omega)
      have hl2 := Sc.wt_take T (k + 1)
      rw [hkk] at c0
      rw [hkt] at c1
      by_cases h5 : T[k].kind = 5
      · have HE := hide (HX1.out (HT5.out h5))
        have hq : (T[k].kind == 5) = true := by simpa using h5
        generalize T[k].kind = kk at c0 hq
        clear h5 HT5 hkk hkt hl1 hl2
        go_wp2
        go_ret2
        exact ⟨by rw [HE.out.1, HE.out.2]; rfl, rfl⟩
      · have hq : (T[k].kind == 5) = false := by simpa using h5
        have HN2 : Hid (∀ j (hj : j < T.length), j < k + 1 → T[j].kind ≠ 5) := by
          intro j hj hlt2
          by_cases e : j = k
          · subst e; exact h5
          · exact HN.out j hj (by omega)
        cases k with
        | zero =>
          have hs1 : Sc.flS T 1 = T[0].text := Sc.flS_one T hT
          rw [hs1] at hl1
          have hts : (⟨T[0].text.toArray⟩ : ByteArray).size ≤ 20000 := by rw [bsize]; omega
          have HB2 : Hid (b ++ ⟨T[0].text.toArray⟩ = ⟨(Sc.flS T (0 + 1)).toArray⟩) := by
            rw [HB.out, Sc.flS_zero, hs1, bapp]; exact hide rfl
          have hsz : (b ++ ⟨T[0].text.toArray⟩ : ByteArray).size ≤ 20000 := by rw [HB2.out, bsize, hs1]; omega
          generalize (⟨T[0].text.toArray⟩ : ByteArray) = bt at c1 hts HB2 hsz
          generalize T[0].kind = kk at c0 hq
          clear h5 HT5 hkk hkt hl1 hl2 hs1
          simp only [Nat.add_zero] at c0 c1 hik ⊢
          go_wp2
          go_round
          case rel => exact ⟨0 + 1, _, by omega, by go_num, rfl, hsz, HB2, HN2⟩
          case measure => simp [intOf]; omega
        | succ k =>
          obtain ⟨hik0, hkk0, -, -⟩ := HGET.out k (by omega)
          obtain ⟨g', hg1, -, -, -, -, c00, -, -, -⟩ := h.at (i + k) hik0
          injection hg1 with hg1; injection hg1 with hg1; subst hg1
          rw [hkk0] at c00
          have hsn := Sc.flS_next T k hlt
          rw [hsn] at hl1
          simp only [List.length_append] at hl1
          have hts : (⟨T[k + 1].text.toArray⟩ : ByteArray).size ≤ 20000 := by rw [bsize]; omega
          have HB2 : Hid ((Sc.flatGap T[k] T[k + 1] = [] → b ++ ⟨T[k + 1].text.toArray⟩ = ⟨(Sc.flS T (k + 1 + 1)).toArray⟩ ∧ (b ++ ⟨T[k + 1].text.toArray⟩ : ByteArray).size ≤ 20000) ∧
              (Sc.flatGap T[k] T[k + 1] = [32] → b ++ ⟨#[32]⟩ ++ ⟨T[k + 1].text.toArray⟩ = ⟨(Sc.flS T (k + 1 + 1)).toArray⟩ ∧ (b ++ ⟨#[32]⟩ ++ ⟨T[k + 1].text.toArray⟩ : ByteArray).size ≤ 20000)) := by
            rw [HB.out]
            refine hide ⟨fun e => ?_, fun e => ?_⟩
            · rw [hsn, e, bapp, bsize]
              refine ⟨by simp, ?_⟩
              rw [List.length_append]; omega
            · rw [hsn, e, bapp1, bapp, bsize]
              refine ⟨by simp, ?_⟩
              rw [e] at hl1
              simp only [List.length_append, List.length_singleton] at hl1 ⊢
              omega
          have hgap : Sc.flatGap T[k] T[k + 1] = if T[k + 1].kind = 3 ∨ T[k].kind = 2 ∨ T[k].kind = 4 then [] else [32] := rfl
          rw [hgap] at HB2
          have hbs2 : (b ++ ⟨#[32]⟩ : ByteArray).size ≤ 20001 := by
            have h1 : (⟨#[32]⟩ : ByteArray).size = 1 := rfl
            rw [ByteArray.size_append, h1]; omega
          generalize (⟨T[k + 1].text.toArray⟩ : ByteArray) = bt at c1 hts HB2
          generalize T[k + 1].kind = kk at c0 hq HB2
          generalize T[k].kind = kp at c00 HB2
          obtain ⟨m, hm⟩ : ∃ m, i + k = m := ⟨_, rfl⟩
          rw [hm] at c00
          rw [show i + (k + 1) = m + 1 by omega] at c0 c1 hik ⊢
          have hne : ((m : Int) + 1 == (i : Int)) = false := by simp; omega
          clear h5 HT5 hkk hkt hl1 hl2 hsn hgap HB hkk0 hik0
          cases k3 : (kk == 3) with
          | true =>
            have HX := hide (HB2.out.1 (if_pos (.inl (by simpa using k3))))
            have hsz := HX.out.2
            clear HB2
            go_wp2
            go_round
            case rel => exact ⟨k + 1 + 1, _, by omega, by go_num, rfl, hsz, hide HX.out.1, HN2⟩
            case measure => simp [intOf]; omega
          | false =>
          have n3 : ¬ kk = 3 := by simpa using k3
          cases k2 : (kp == 2) with
          | true =>
            have HX := hide (HB2.out.1 (if_pos (.inr (.inl (by simpa using k2)))))
            have hsz := HX.out.2
            clear HB2 n3
            go_wp2
            go_round
            case rel => exact ⟨k + 1 + 1, _, by omega, by go_num, rfl, hsz, hide HX.out.1, HN2⟩
            case measure => simp [intOf]; omega
          | false =>
          have n2 : ¬ kp = 2 := by simpa using k2
          cases k4 : (kp == 4) with
          | true =>
            have HX := hide (HB2.out.1 (if_pos (.inr (.inr (by simpa using k4)))))
            have hsz := HX.out.2
            clear HB2 n3 n2
            go_wp2
            go_round
            case rel => exact ⟨k + 1 + 1, _, by omega, by go_num, rfl, hsz, hide HX.out.1, HN2⟩
            case measure => simp [intOf]; omega
          | false =>
            have n4 : ¬ kp = 4 := by simpa using k4
            have HX := hide (HB2.out.2 (if_neg (by omega)))
            have hsz := HX.out.2
            clear HB2 n3 n2 n4
            go_wp2
            go_round
            case rel => exact ⟨k + 1 + 1, _, by omega, by go_num, rfl, hsz, hide HX.out.1, HN2⟩
            case measure => simp [intOf]; omega
    · have hkT : k = T.length := by omega
      have HE := hide (HX2.out (Sc.hasC_no T (fun j hj => HN.out j hj (by omega))))
      subst hkT
      go_wp2
      go_ret2
      exact ⟨by rw [HE.out.1, HE.out.2, HB.out]; rfl, rfl⟩
end Go.Proofs.YtoieklacpkahbaaGreatDoor
namespace Go.Proofs.YtoieklacpkahbaaGreatDoor
open Go.RowKit
namespace Sc
def isBt (ts : List Tok) (k : Nat) : Bool := match ts[k]? with | some t => (t.kind == 5) && t.behind | none => false
/-- The tail of the element that ends ahead of the k-th token. -/
def tailT (ts : List Tok) (k : Nat) (last : Int) : Int := if isBt ts k then ((ts[k]?.map (·.text.length)).getD 0 : Nat) + 1 else match ts[k]? with | none => last | some t => if t.kind = 3 then last else 0
end Sc

theorem boxed {w w1 : World} {v : Value} {W : Int} (hb : Below (w.alloc (Obj.cells #[v, .int .i64 W] 71)).heap.size (w.alloc (Obj.cells #[v, .int .i64 W] 71)) w1) :
    Below w.heap.size w w1 ∧ w.heap.size < w1.heap.size ∧ w1.cell? ⟨w.heap.size, 0, none⟩ = some v ∧ w1.cell? ⟨w.heap.size, 1, none⟩ = some (.int .i64 W) := by
  have hs : (w.alloc (Obj.cells #[v, .int .i64 W] 71)).heap.size = w.heap.size + 1 := by simp
  have h1 := hb.size
  refine ⟨((Below.refl _ _).alloc (Nat.le_refl _) _).trans (hb.mono (by omega)), by omega, ?_, ?_⟩
  · exact (hb.cell (by show w.heap.size < _; omega)).trans (by simp)
  · exact (hb.cell (by show w.heap.size < _; omega)).trans (by simp)

set_option maxHeartbeats 1000000 in
theorem rbehind_any (ao : Option Addr) (cap : Nat) (ts : List Sc.Tok) (B0 : Nat) (w : World) (W : Int) (k : Nat) (h : Owns w B0 (.slice ao ts.length cap) ts) :
    Calls Tryz.prog 25 #[.agg #[.slice ao ts.length cap, .int .i64 W], .int .i64 k] w fun e w' => e = .returned (.bool (Sc.isBt ts k)) ∧ Below w.heap.size w w' := by
  by_cases hlt : k < ts.length
  · obtain ⟨g, hg1, -, -, hg4, hcap, c0, -, -, c3⟩ := h.at k hlt
    subst hg1
    have hX : Sc.isBt ts k = ((ts[k].kind == 5) && ts[k].behind) := by unfold Sc.isBt; rw [List.getElem?_eq_getElem hlt]
    rw [hX]
    clear hX
    generalize ts[k].kind = kk at c0 ⊢
    generalize ts[k].behind = bb at c3 ⊢
    cases k5 : (kk == 5) with
    | true =>
      go_enter Tryz.func25, Tryz.ntmps25
      go_wp2
      go_ret
      exact ⟨ret_bool (by simp), (Below.refl _ _).alloc (Nat.le_refl _) _⟩
    | false =>
      go_enter Tryz.func25, Tryz.ntmps25
      go_wp2
      go_ret
      exact ⟨ret_bool (by simp), (Below.refl _ _).alloc (Nat.le_refl _) _⟩
  · have hX : Sc.isBt ts k = false := by unfold Sc.isBt; rw [List.getElem?_eq_none (by omega)]
    rw [hX]
    clear hX
    go_enter Tryz.func25, Tryz.ntmps25
    go_wp2
    go_ret
    exact ⟨rfl, (Below.refl _ _).alloc (Nat.le_refl _) _⟩

set_option maxHeartbeats 1000000 in
theorem rtail_any (ao : Option Addr) (cap : Nat) (ts : List Sc.Tok) (B0 : Nat) (w : World) (W : Int) (k : Nat) (last : Int) (h : Owns w B0 (.slice ao ts.length cap) ts) (hts : ∀ t ∈ ts, t.text.length ≤ 4096) :
    Calls Tryz.prog 29 #[.agg #[.slice ao ts.length cap, .int .i64 W], .int .i64 k, .int .i64 last] w fun e w' => e = .returned (.int .i64 (Sc.tailT ts k last)) ∧ Below w.heap.size w w' := by
  have HBH := hide (fun W1 (hW : Owns W1 B0 (.slice ao ts.length cap) ts) => rbehind_any ao cap ts B0 W1 W k hW)
  have HOW := hide (fun W1 (hW : Below w.heap.size w W1) => h.below hW)
  generalize hX : Sc.tailT ts k last = X
  unfold Sc.tailT at hX
  cases hB : Sc.isBt ts k with
  | true =>
    rw [hB] at HBH hX
    have hlt : k < ts.length := by
      by_cases hlt : k < ts.length
      · exact hlt
      · unfold Sc.isBt at hB; rw [List.getElem?_eq_none (by omega)] at hB; cases hB
    obtain ⟨g, hg1, -, -, hg4, hcap, -, c1, -, -⟩ := h.at k hlt
    subst hg1
    have hl := hts ts[k] (List.getElem_mem hlt)
    rw [List.getElem?_eq_getElem hlt] at hX
    simp only [if_true, Option.map_some, Option.getD_some] at hX
    have hbz : (⟨ts[k].text.toArray⟩ : ByteArray).size = ts[k].text.length := bsize _
    rw [← hbz] at hX hl
    generalize (⟨ts[k].text.toArray⟩ : ByteArray) = bt at c1 hX hl hbz
    have HX := hide hX
    clear hX hbz hB
    go_enter Tryz.func29, Tryz.ntmps29
    go_wp2_with (go_at_call 25; refine (HBH.out _ (HOW.out _ ((Below.refl _ _).alloc (Nat.le_refl _) _))).mono ?_; rintro e w1 ⟨rfl, hb1⟩; obtain ⟨hb, hsz, b0, b1⟩ := boxed hb1; have cc1 := (hb.cell hg4).trans c1; clear hb1)
    go_ret
    exact ⟨ret_int HX.out, hb⟩
  | false =>
    rw [hB] at HBH hX
    simp only [Bool.false_eq_true, if_false] at hX
    by_cases hlt : k < ts.length
    · obtain ⟨g, hg1, -, -, hg4, hcap, c0, -, -, -⟩ := h.at k hlt
      subst hg1
      rw [List.getElem?_eq_getElem hlt] at hX
      simp only at hX
      generalize ts[k].kind = kk at c0 hX
      cases k3 : (kk == 3) with
      | true =>
        rw [if_pos (by simpa using k3)] at hX
        have HX := hide hX
        clear hX hB
        go_enter Tryz.func29, Tryz.ntmps29
        go_wp2_with (go_at_call 25; refine (HBH.out _ (HOW.out _ ((Below.refl _ _).alloc (Nat.le_refl _) _))).mono ?_; rintro e w1 ⟨rfl, hb1⟩; obtain ⟨hb, hsz, b0, b1⟩ := boxed hb1; have cc0 := (hb.cell hg4).trans c0; clear hb1)
        go_ret
        exact ⟨ret_int HX.out, hb⟩
      | false =>
        rw [if_neg (by simpa using k3)] at hX
        have HX := hide hX
        clear hX hB
        go_enter Tryz.func29, Tryz.ntmps29
        go_wp2_with (go_at_call 25; refine (HBH.out _ (HOW.out _ ((Below.refl _ _).alloc (Nat.le_refl _) _))).mono ?_; rintro e w1 ⟨rfl, hb1⟩; obtain ⟨hb, hsz, b0, b1⟩ := boxed hb1; have cc0 := (hb.cell hg4).trans c0; clear hb1)
        go_ret
        exact ⟨ret_int HX.out, hb⟩
    · rw [List.getElem?_eq_none (by omega)] at hX
      simp only at hX
      have HX := hide hX
      clear hX hB
      go_enter Tryz.func29, Tryz.ntmps29
      go_wp2_with (go_at_call 25; refine (HBH.out _ (HOW.out _ ((Below.refl _ _).alloc (Nat.le_refl _) _))).mono ?_; rintro e w1 ⟨rfl, hb1⟩; obtain ⟨hb, hsz, b0, b1⟩ := boxed hb1; clear hb1)
      go_ret
      exact ⟨ret_int HX.out, hb⟩
end Go.Proofs.YtoieklacpkahbaaGreatDoor
namespace Go.Proofs.YtoieklacpkahbaaGreatDoor
open Go.RowKit

theorem info_u8 : (Tryz.prog.info? 5).map (fun i => (i.zero, i.size, i.bytes)) = some (some (.int .u8 0), 1, 1) := by kernel_rfl
theorem under_u8 : Tryz.prog.underlying 5 = some (.int .u8) := by kernel_rfl
theorem addr_add (n j : Nat) : (⟨n, 0, none⟩ : Addr).add j = ⟨n, j, none⟩ := by
  unfold Addr.add
  split
  · rename_i h; subst h; rfl
  · simp
namespace Sc
def fillV (c k : Nat) : List Value := List.replicate k (.int .u8 32) ++ List.replicate (c - k) (.int .u8 0)
theorem fillV_set (c k : Nat) (h : k < c) : (fillV c k).set k (.int .u8 32) = fillV c (k + 1) := by
  unfold fillV
  rw [List.set_append_right _ _ (by simp)]
  simp only [List.length_replicate, Nat.sub_self]
  obtain ⟨m, hm⟩ : ∃ m, c - k = m + 1 := ⟨c - k - 1, by omega⟩
  rw [hm, show c - (k + 1) = m by omega, List.replicate_succ (n := m), List.set_cons_zero, List.replicate_succ' (n := k)]
  simp
theorem fillV_all (c : Nat) : fillV c c = List.replicate c (.int .u8 32) := by unfold fillV; simp
theorem fillV_len (c k : Nat) (h : k ≤ c) : (fillV c k).length = c := by unfold fillV; simp; omega
end Sc

set_option maxRecDepth 20000 in
set_option maxHeartbeats 1000000 in
theorem line_any (l : List UInt8) (c : Nat) (w : World) (hs : l.length ≤ 1000000000000) (hc : c ≤ 100000) :
    Calls Tryz.prog 26 #[.string ⟨l.toArray⟩, .int .i64 c] w fun e w' => e = .returned (.string ⟨(l ++ Sc.nl c).toArray⟩) ∧ Below w.heap.size w w' := by
  obtain ⟨i0, hi, hz0, hz1, hz2⟩ := info_parts info_u8
  have hz := bsize l
  have HA := hide (show (⟨l.toArray⟩ : ByteArray) ++ ⟨#[10]⟩ ++ ⟨(List.replicate c (32 : UInt8)).toArray⟩ = ⟨(l ++ Sc.nl c).toArray⟩ by rw [bapp1, bapp]; simp [Sc.nl])
  generalize (⟨(l ++ Sc.nl c).toArray⟩ : ByteArray) = X at HA ⊢
  generalize (⟨l.toArray⟩ : ByteArray) = s at HA hz ⊢
  go_enter Tryz.func26, Tryz.ntmps26
  go_wp2_with (at_make; refine wpList_make_full _ rfl _ _ 60 rfl w.heap.size 5 i0 (.int .u8 0) 1 Tryz.underlying60 hi hz0 hz1 .i64 .i64 _ _ c rfl rfl rfl rfl (by rw [hz2]; omega) (by unfold maxLen; omega) (Nat.le_refl _) ?_; intro w1 hown hgrow)
  have hb1 : Below w.heap.size w w1 := (Below.refl _ _).grown hgrow (Nat.le_refl _) (fun k hk => by cases hk)
  have hrow : w1.ownsRow w.heap.size 5 1 (.slice (some ⟨w.heap.size, 0, none⟩) c c) c (Sc.fillV c 0) := by
    have : (madeCells (Value.int IntKind.u8 0).cells (c * 1)).toList = Sc.fillV c 0 := by
      rw [Nat.mul_one]; exact toList_madeCells_one _ _
    rw [← this]; exact hown
  clear hown hgrow
  go_loopw [6] (fun x wr => ∃ k : Nat, k ≤ c ∧ x = .int .i64 k ∧ wr.ownsRow w.heap.size 5 1 (.slice (some ⟨w.heap.size, 0, none⟩) c c) c (Sc.fillV c k) ∧ Below w.heap.size w wr) (fun x _ => c - (intOf x).toNat)
  case atStart => exact ⟨0, by omega, rfl, hrow, hb1⟩
  case round =>
    obtain ⟨k, hk, rfl, hr, hb⟩ := hrel
    by_cases hlt : k < c
    · have hfz := hr.frozenAt k
      have hst := hr.stored k (.int .u8 32)
      rw [Sc.fillV_set c k hlt] at hst
      have hcell := World.ownsRow.cellAt hr k (by omega)
      rw [List.getElem?_eq_getElem (by rw [Sc.fillV_len c k hk]; exact hlt)] at hcell
      have HST := hide hst
      clear hst
      go_wp2
      go_round
      case rel => exact ⟨k + 1, by omega, by go_num, HST.out.1, hb.setCell (p := ⟨w.heap.size, k, none⟩) (Nat.le_refl _) _⟩
      case measure => simp [intOf]; omega
    · have hkc : k = c := by omega
      subst hkc
      rw [Sc.fillV_all] at hr
      have hsz := hb.size
      have hlt0 := (hr.lt _ rfl).2
      have HC : Hid (∀ W, Below wr.heap.size wr W → (convert 60 9 (.slice (some ⟨w.heap.size, 0, none⟩) k k)).run Tryz.prog W = .ok (.string ⟨(List.replicate k (32 : UInt8)).toArray⟩) W) := by
        intro W hW
        have := run_convert_bytes_back (P := Tryz.prog) W 60 9 5 ⟨w.heap.size, 0, none⟩ k (List.replicate k (32 : UInt8)) Tryz.underlying60 under_u8 Tryz.underlying9 (fun j hj => by
          have hj : j < k := by simpa using hj
          have h1 := World.ownsRow.cellAt hr j (by omega)
          rw [List.getElem?_replicate, if_pos hj] at h1
          rw [addr_add, hW.cell (p := ⟨w.heap.size, j, none⟩) hlt0, h1]
          simp)
        simpa using this
      have hc1 : (convert 60 9 (.slice (some ⟨w.heap.size, 0, none⟩) k k)).run Tryz.prog (wr.alloc (Obj.cells #[.int .u8 10] 5)) = .ok (.string ⟨(List.replicate k (32 : UInt8)).toArray⟩) (wr.alloc (Obj.cells #[.int .u8 10] 5)) := HC.out (wr.alloc (Obj.cells #[.int .u8 10] 5)) ((Below.refl _ _).alloc (Nat.le_refl _) _)
      have hc2 : (convert 60 9 (.slice (some ⟨wr.heap.size, 0, none⟩) 1 1)).run Tryz.prog (wr.alloc (Obj.cells #[.int .u8 10] 5)) = .ok (.string ⟨#[10]⟩) (wr.alloc (Obj.cells #[.int .u8 10] 5)) := run_convert_bytes_back (P := Tryz.prog) (wr.alloc (Obj.cells #[.int .u8 10] 5)) 60 9 5 ⟨wr.heap.size, 0, none⟩ 1 [10] Tryz.underlying60 under_u8 Tryz.underlying9 (fun j hj => by
          have hj : j = 0 := by simpa using hj
          subst hj
          simp [Addr.add])
      have hz10 : (⟨#[10]⟩ : ByteArray).size = 1 := rfl
      have hzs : (s ++ ⟨#[10]⟩ : ByteArray).size = s.size + 1 := by rw [ByteArray.size_append, hz10]
      have hzr : (⟨(List.replicate k (32 : UInt8)).toArray⟩ : ByteArray).size = k := by rw [bsize]; simp
      generalize (⟨(List.replicate k (32 : UInt8)).toArray⟩ : ByteArray) = sp at HA hc1 hzr
      clear HC hr
      go_wp2
      go_ret
      exact ⟨by rw [HA.out]; rfl, hb.alloc hsz _⟩
end Go.Proofs.YtoieklacpkahbaaGreatDoor
namespace Go.Proofs.YtoieklacpkahbaaGreatDoor
open Go.RowKit

set_option maxHeartbeats 1000000 in
/-- one: the texts lie in a row of strings. -/
theorem one_any (s : ByteArray) (g n : Nat) (xs : List ByteArray) (w : World) (hn : xs.length = n) (hn2 : n ≤ 100) (hc : ∀ i (hi : i < xs.length), w.cell? ⟨g, i, none⟩ = some (.string xs[i])) :
    Calls Tryz.prog 141 #[.string s, .slice (some ⟨g, 0, none⟩) n n] w fun e w' => e = .returned (.bool (xs.any (fun x => x.toList == s.toList))) ∧ w' = w := by
  generalize hX : xs.any (fun x => x.toList == s.toList) = X
  have HX := hide hX; clear hX
  have HC := hide hc; clear hc
  go_enter Tryz.func141, Tryz.ntmps141
  go_wp2
  go_loop [5] (fun x => ∃ k : Nat, k ≤ n ∧ x = .int .i64 k ∧ Hid (X = (xs.drop k).any (fun x => x.toList == s.toList))) (fun x => n - (intOf x).toNat)
  case atStart => exact ⟨0, by omega, rfl, hide (by rw [List.drop_zero]; exact HX.out.symm)⟩
  case round =>
    obtain ⟨k, hk, rfl, HK⟩ := hrel
    by_cases hlt : k < n
    · have hkl : k < xs.length := by omega
      have c := HC.out k hkl
      have hd : X = ((xs[k].toList == s.toList) || (xs.drop (k + 1)).any (fun x => x.toList == s.toList)) := by rw [HK.out, List.drop_eq_getElem_cons hkl, List.any_cons]
      generalize xs[k] = x at c hd
      have HD := hide hd
      clear hd HK
      cases hq : (x.toList == s.toList) with
      | true =>
        have HE : Hid (X = true) := by rw [HD.out, hq]; exact hide rfl
        go_wp2
        go_ret
        exact ⟨ret_bool HE.out.symm, rfl⟩
      | false =>
        have HE : Hid (X = (xs.drop (k + 1)).any (fun x => x.toList == s.toList)) := by rw [HD.out, hq]; exact hide (Bool.false_or _)
        go_wp2
        go_round
        case rel => exact ⟨k + 1, by omega, by go_num, HE⟩
        case measure => simp [intOf]; omega
    · have HE : Hid (X = false) := by rw [HK.out, List.drop_eq_nil_of_le (by omega)]; exact hide rfl
      go_wp2
      go_ret
      exact ⟨ret_bool HE.out.symm, rfl⟩
end Go.Proofs.YtoieklacpkahbaaGreatDoor
