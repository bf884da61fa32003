/- Walks: the second reader's deep and lists. -/
import Derived.Test.YtoieklacpkahbaaDoorWalkT
import Derived.Test.YtoieklacpkahbaaDoorPlainT
namespace Go.Proofs.YtoieklacpkahbaaDoor
open Go.RowKit

set_option maxHeartbeats 800000 in
theorem deep_any (ao : Option Addr) (cap : Nat) (ts : List Sc.Tok) (B0 : Nat) (w : World) (h : Owns w B0 (.slice ao ts.length cap) ts) (hn : ts.length ≤ 4096) (n : Nat) (hnl : n ≤ ts.length) :
    Calls Tryd.prog 39 #[.slice ao ts.length cap, .int .i64 n] w fun e w' => e = .returned (.int .i64 (Sc.dpGo (ts.take n) 0)) ∧ w' = w := by
  generalize hX : Sc.dpGo (ts.take n) 0 = X
  have HX := hide hX; clear hX
  go_enter Tryd.func39, Tryd.ntmps39
  go_wp2
  go_loop [5, 6] (fun d i => ∃ (k : Nat) (e : Int), k ≤ n ∧ 0 ≤ e ∧ e ≤ k ∧ i = .int .i64 k ∧ d = .int .i64 e ∧ Hid (X = Sc.dpGo ((ts.take n).drop k) e)) (fun _ i => n - (intOf i).toNat)
  case atStart => exact ⟨0, 0, by omega, by omega, by omega, rfl, rfl, HX.out.symm⟩
  case round =>
    obtain ⟨k, e, h1, h2, h3, rfl, rfl, HK⟩ := hrel
    by_cases hlt : k < n
    · obtain ⟨g, hg1, _, _, hg4, hcap, c0, _, _, _⟩ := h.at k (by omega)
      subst hg1
      have hlen : (ts.take n).length = n := by rw [List.length_take]; omega
      have HS : Hid (X = if Sc.dstep e ts[k] < 0 then Sc.dstep e ts[k] else Sc.dpGo ((ts.take n).drop (k + 1)) (Sc.dstep e ts[k])) := by
        rw [HK.out, List.drop_eq_getElem_cons (by omega), Sc.dpGo, List.getElem_take]; exact hide rfl
      unfold Sc.dstep at HS
      generalize ts[k].kind = kk at c0 HS
      clear HK hlen
      cases k2 : (kk == 2) with
      | true =>
        have e2 : kk = 2 := by simpa using k2
        have k3 : (kk == 3) = false := by rw [e2]; rfl
        have HE : Hid (X = Sc.dpGo ((ts.take n).drop (k + 1)) (e + 1)) := by
          have hs := HS.out
          rw [if_pos e2, if_neg (by omega : ¬ kk = 3), if_neg (by omega), Int.sub_zero] at hs; exact hs
        clear HS e2
        go_wp2
        go_round
        case rel => exact ⟨k + 1, e + 1, by omega, by omega, by omega, by go_num, rfl, HE⟩
        case measure => simp [intOf]; omega
      | false =>
      have n2 : ¬ kk = 2 := by simpa using k2
      cases k3 : (kk == 3) with
      | true =>
        have e3 : kk = 3 := by simpa using k3
        by_cases he : e = 0
        · have HE : Hid (X = e - 1) := by
            have hs := HS.out
            rw [if_neg n2, if_pos e3, if_pos (by omega), Int.add_zero] at hs; exact hs
          clear HS e3 n2
          go_wp2
          go_ret
          exact ⟨ret_int (by rw [HE.out]; omega), rfl⟩
        · have HE : Hid (X = Sc.dpGo ((ts.take n).drop (k + 1)) (e - 1)) := by
            have hs := HS.out
            rw [if_neg n2, if_pos e3, if_neg (by omega), Int.add_zero] at hs; exact hs
          clear HS e3 n2
          go_wp2
          go_round
          case rel => exact ⟨k + 1, e - 1, by omega, by omega, by omega, by go_num, rfl, HE⟩
          case measure => simp [intOf]; omega
      | false =>
        have n3 : ¬ kk = 3 := by simpa using k3
        have HE : Hid (X = Sc.dpGo ((ts.take n).drop (k + 1)) e) := by
          have hs := HS.out
          rw [if_neg n2, if_neg n3, if_neg (by omega), Int.add_zero, Int.sub_zero] at hs; exact hs
        clear HS n3 n2
        go_wp2
        go_round
        case rel => exact ⟨k + 1, e, by omega, by omega, by omega, by go_num, rfl, HE⟩
        case measure => simp [intOf]; omega
    · have HE : Hid (X = e) := by
        rw [HK.out, List.drop_eq_nil_of_le (by rw [List.length_take]; omega)]; exact hide rfl
      go_wp2
      go_ret
      exact ⟨ret_int HE.out.symm, rfl⟩

theorem head64 {c : UInt8} {r : List UInt8} {h : 0 < (⟨(c :: r).toArray⟩ : ByteArray).size} : (⟨(c :: r).toArray⟩ : ByteArray)[0]'h = c := rfl

set_option maxRecDepth 20000 in
set_option maxHeartbeats 4000000 in
theorem rlists_any (ao : Option Addr) (cap : Nat) (ts : List Sc.Tok) (B0 : Nat) (w : World) (h : Owns w B0 (.slice ao ts.length cap) ts) (hn : ts.length ≤ 4096) (hsh : ∀ t ∈ ts, Sc.Shape t) (le : Int) (lp : Int) (HL : Hid (Sc.listsRes ts = (le, lp))) :
    Calls Tryd.prog 24 #[.slice ao ts.length cap] w fun e w' => e = .returned (.tuple #[.int .i64 le, .int .i64 lp]) ∧ Below w.heap.size w w' := by
  have HSH := hide hsh; clear hsh
  have HDP := hide (fun n hnl W (hW : Owns W B0 (.slice ao ts.length cap) ts) => deep_any ao cap ts B0 W hW hn n hnl)
  go_enter Tryd.func24, Tryd.ntmps24
  go_wp2
  go_loop [5] (fun i => ∃ (k : Nat) (st : List Int), k ≤ ts.length ∧ st.length ≤ 32 ∧ i = .int .i64 k ∧ Hid (Sc.listsGo (ts.drop k) st = (le, lp)) ∧ Hid (Sc.Stk (ts.take k) st)) (fun i => ts.length - (intOf i).toNat)
  case atStart => exact ⟨0, [], by omega, by simp, rfl, HL, Sc.Stk.nil⟩
  case round =>
    obtain ⟨k, st, h1, h2, rfl, HK, HST⟩ := hrel
    by_cases hlt : k < ts.length
    · obtain ⟨g, hg1, _, _, hg4, hcap, c0, c1, c2, c3⟩ := h.at k hlt
      subst hg1
      have hd : ts.drop k = ts[k] :: ts.drop (k + 1) := List.drop_eq_getElem_cons hlt
      have ht : ts.take (k + 1) = ts.take k ++ [ts[k]] := List.take_succ_eq_append_getElem hlt
      have hs := HSH.out ts[k] (List.getElem_mem hlt)
      have hlg := HK.out
      rw [hd] at hlg
      have hdp : Sc.dpGo (ts.take (k + 1)) 0 = Sc.dstep st.length ts[k] := by rw [ht]; exact Sc.dp_next HST.out
      have hpush := fun (hk : ts[k].kind = 2) => Sc.Stk.push (t := ts[k]) HST.out hk
      have hpop := fun (hk : ts[k].kind = 3) hs => Sc.Stk.pop (t := ts[k]) HST.out hk hs
      have hstay := fun (h2 : ts[k].kind ≠ 2) (h3 : ts[k].kind ≠ 3) => Sc.Stk.stay (t := ts[k]) HST.out h2 h3
      rw [← ht] at hpush hpop hstay
      have HDK := HDP.out (k + 1) (by omega)
      rw [hdp] at HDK
      have HDK := hide HDK
      obtain ⟨t, hte⟩ : ∃ t, t = ts[k] := ⟨_, rfl⟩
      rw [← hte] at hs hlg c0 c1 c2 c3 hpush hpop hstay HDK
      clear hd ht hte hdp HK HST
      rw [Sc.listsGo] at hlg
      obtain ⟨tk, tt, tp, tb⟩ := t
      unfold Sc.dstep at HDK
      simp only at hs hlg c0 c1 c2 c3 hpush hpop hstay HDK
      have hs1 := hs.2.1
      simp only at hs1
      cases k2 : (tk == 2) with
      | true =>
        have e2 : tk = 2 := by simpa using k2
        subst e2
        have ht44 : ¬ tt = [44] := fun e => by have := hs1 e; omega
        rw [if_pos rfl] at hlg
        simp only [if_true, if_neg (show ¬ (2 : Int) = 3 by decide), Int.sub_zero] at HDK
        by_cases h32 : st.length = 32
        · rw [if_pos h32] at hlg
          simp only [Prod.mk.injEq] at hlg
          obtain ⟨rfl, rfl⟩ := hlg
          clear hpush hpop hstay hs hs1 HL
          go_wp2_with (go_at_call 39; refine (HDK.out _ h).mono ?_; rintro e w1 ⟨rfl, hw1⟩; subst w1)
          go_quiet (fail)
          go_wp2
          go_ret2
          exact ⟨rfl, below_drewN (Below.refl _ _) _⟩
        · rw [if_neg h32] at hlg
          have HG := hide hlg
          have HS2 := hide (hpush rfl)
          clear hpush hpop hstay hs hs1 hlg
          go_wp2_with (go_at_call 39; refine (HDK.out _ h).mono ?_; rintro e w1 ⟨rfl, hw1⟩; subst w1)
          go_round
          case rel => exact ⟨k + 1, _, by omega, by simp; omega, by go_num, HG, HS2⟩
          case measure => simp [intOf]; omega
      | false =>
      have n2 : ¬ tk = 2 := by simpa using k2
      rw [if_neg n2] at hlg
      cases k3 : (tk == 3) with
      | true =>
        have e3 : tk = 3 := by simpa using k3
        subst e3
        have ht44 : ¬ tt = [44] := fun e => by have := hs1 e; omega
        rw [if_pos rfl] at hlg
        simp only [if_true, if_neg (show ¬ (3 : Int) = 2 by decide), Int.add_zero] at HDK
        by_cases h00 : st.length = 0
        · rw [if_pos h00] at hlg
          simp only [Prod.mk.injEq] at hlg
          obtain ⟨rfl, rfl⟩ := hlg
          clear hpush hpop hstay hs hs1 HL
          go_wp2_with (go_at_call 39; refine (HDK.out _ h).mono ?_; rintro e w1 ⟨rfl, hw1⟩; subst w1)
          go_quiet (fail)
          go_wp2
          go_ret2
          exact ⟨rfl, below_drewN (Below.refl _ _) _⟩
        · rw [if_neg h00] at hlg
          have HG := hide hlg
          have HS2 := hide (hpop rfl h00)
          clear hpush hpop hstay hs hs1 hlg
          go_wp2_with (go_at_call 39; refine (HDK.out _ h).mono ?_; rintro e w1 ⟨rfl, hw1⟩; subst w1)
          go_round
          case rel => exact ⟨k + 1, _, by omega, by simp; omega, by go_num, HG, HS2⟩
          case measure => simp [intOf]; omega
      | false =>
      have n3 : ¬ tk = 3 := by simpa using k3
      rw [if_neg n3] at hlg
      have HS2 := hide (hstay n2 n3)
      simp only [if_neg n2, if_neg n3, Int.add_zero, Int.sub_zero] at HDK
      clear hpush hpop hstay
      cases k4 : (tk == 4) with
      | false =>
        have n4 : ¬ tk = 4 := by simpa using k4
        have ht44 : ¬ tt = [44] := fun e => n4 (hs1 e)
        rw [if_neg n4] at hlg
        have HG := hide hlg
        clear hs hs1 hlg n2 n3 n4
        go_wp2_with (go_at_call 39; refine (HDK.out _ h).mono ?_; rintro e w1 ⟨rfl, hw1⟩; subst w1)
        go_round
        case rel => exact ⟨k + 1, st, by omega, by omega, by go_num, HG, HS2⟩
        case measure => simp [intOf]; omega
      | true =>
        have e4 : tk = 4 := by simpa using k4
        subst e4
        rw [if_pos rfl] at hlg
        clear hs hs1 n2 n3
        by_cases hla : k + 1 = ts.length
        · have hlb : ((k : Int) + 1 == (ts.length : Int)) = true := beq_iff_eq.2 (by omega)
          rw [List.drop_eq_nil_of_le (by omega)] at hlg
          simp only [Sc.leads, Bool.false_eq_true, if_false, Prod.mk.injEq] at hlg
          obtain ⟨rfl, rfl⟩ := hlg
          clear HL hla HS2
          go_wp2_with (go_at_call 39; refine (HDK.out _ h).mono ?_; rintro e w1 ⟨rfl, hw1⟩; subst w1)
          go_quiet (fail)
          go_wp2
          go_ret2
          exact ⟨rfl, below_drewN (Below.refl _ _) _⟩
        · have hlb : ((k : Int) + 1 == (ts.length : Int)) = false := beq_eq_false_iff_ne.2 (by omega)
          have hnx : k + 1 < ts.length := by omega
          obtain ⟨g', hg1', _, _, _, _, f0, f1, _, _⟩ := h.at (k + 1) hnx
          injection hg1' with hg1'
          injection hg1' with hg1' _ _
          subst hg1'
          have hs2 := HSH.out ts[k + 1] (List.getElem_mem hnx)
          rw [List.drop_eq_getElem_cons hnx] at hlg
          obtain ⟨u, hue⟩ : ∃ u, u = ts[k + 1] := ⟨_, rfl⟩
          rw [← hue] at hlg f0 f1 hs2
          have HU : Hid (ts.drop (k + 1) = u :: ts.drop (k + 1 + 1)) := by rw [hue]; exact hide (List.drop_eq_getElem_cons hnx)
          clear hue
          obtain ⟨uk, ut, up, ub⟩ := u
          simp only at f0 f1
          have hpos := hs2.1
          have hsh2 := hs2.2.2.1
          have hkd2 := hs2.2.2.2
          simp only at hpos hsh2 hkd2
          match ut, hpos with
          | [], hpos => simp at hpos
          | c :: r, _ =>
          simp only [Sc.leads, Sc.leadsB] at hlg
          by_cases u3 : uk = 3
          · have q3 : (uk == 3) = true := by simpa using u3
            simp only [if_pos u3, Bool.false_eq_true, if_false, Prod.mk.injEq] at hlg
            obtain ⟨rfl, rfl⟩ := hlg
            clear HL hla HS2 hs2 hsh2 hkd2 u3 HU
            go_wp2_with (go_at_call 39; refine (HDK.out _ h).mono ?_; rintro e w1 ⟨rfl, hw1⟩; subst w1)
            go_quiet (fail)
            go_wp2
            go_ret2
            exact ⟨rfl, below_drewN (Below.refl _ _) _⟩
          have q3 : (uk == 3) = false := by simpa using u3
          by_cases u5 : uk = 5
          · have q5 : (uk == 5) = true := by simpa using u5
            simp only [if_neg u3, if_pos u5, Bool.false_eq_true, if_false, Prod.mk.injEq] at hlg
            obtain ⟨rfl, rfl⟩ := hlg
            clear HL hla HS2 hs2 hsh2 hkd2 u3 u5 HU
            go_wp2_with (go_at_call 39; refine (HDK.out _ h).mono ?_; rintro e w1 ⟨rfl, hw1⟩; subst w1)
            go_quiet (fail)
            go_wp2
            go_ret2
            exact ⟨rfl, below_drewN (Below.refl _ _) _⟩
          have q5 : (uk == 5) = false := by simpa using u5
          simp only [if_neg u3, if_neg u5] at hlg
          by_cases h44 : tt = [44]
          · subst h44
            by_cases hc64 : c = 64
            · subst hc64
              have u2 : ¬ uk = 2 := fun e => hsh2 (.inl e) rfl
              have u4 : ¬ uk = 4 := fun e => hsh2 (.inr e) rfl
              have u1 : uk = 1 := by omega
              have hhd : ((((⟨(64 :: r).toArray⟩ : ByteArray)[0]'(by show 0 < (64 :: r).toArray.size; simp)).toNat : Int) == 64) = true := by rw [head64]; rfl
              rw [if_pos u1] at hlg
              simp at hlg
              obtain ⟨rfl, rfl⟩ := hlg
              clear HL hla HS2 hs2 hsh2 hkd2 u1 u2 u3 u4 u5 HU
              go_wp2_with (go_at_call 39; refine (HDK.out _ h).mono ?_; rintro e w1 ⟨rfl, hw1⟩; subst w1)
              go_quiet (fail)
              go_wp2
              go_ret2
              exact ⟨rfl, below_drewN (Below.refl _ _) _⟩
            · have hhd : ((((⟨(c :: r).toArray⟩ : ByteArray)[0]'(by show 0 < (c :: r).toArray.size; simp)).toNat : Int) == 64) = false := by rw [head64, ← u8b (d := 64)]; simpa using hc64
              have hlg2 : Sc.listsGo (ts.drop (k + 1)) st = (le, lp) := by
                rw [HU.out, ← hlg]
                by_cases u1 : uk = 1
                · rw [if_pos u1]; simp [hc64]
                · rw [if_neg u1]; simp
              have HG := hide hlg2
              clear hlg hlg2 hs2 hsh2 hkd2 u3 u5 HU hc64
              go_wp2_with (go_at_call 39; refine (HDK.out _ h).mono ?_; rintro e w1 ⟨rfl, hw1⟩; subst w1)
              go_round
              case rel => exact ⟨k + 1, st, by omega, by omega, by go_num, HG, HS2⟩
              case measure => simp [intOf]; omega
          · have hlg2 : Sc.listsGo (ts.drop (k + 1)) st = (le, lp) := by
              rw [HU.out, ← hlg]
              by_cases u1 : uk = 1
              · rw [if_pos u1]; simp [h44]
              · rw [if_neg u1]; simp
            have HG := hide hlg2
            clear hlg hlg2 hs2 hsh2 hkd2 u3 u5 HU
            go_wp2_with (go_at_call 39; refine (HDK.out _ h).mono ?_; rintro e w1 ⟨rfl, hw1⟩; subst w1)
            go_round
            case rel => exact ⟨k + 1, st, by omega, by omega, by go_num, HG, HS2⟩
            case measure => simp [intOf]; omega
    · have hk : k = ts.length := by omega
      have hst := HST.out
      have hlg := HK.out
      rw [List.drop_eq_nil_of_le (by omega)] at hlg
      rw [hk, List.take_length] at hst
      have HDK := HDP.out ts.length (by omega)
      rw [List.take_length, hst.1] at HDK
      have HDK := hide HDK
      clear HK HST
      by_cases h0 : st.length = 0
      · have e : st = [] := List.eq_nil_of_length_eq_zero h0
        subst e
        simp only [Sc.listsGo, List.getLast?_nil, Prod.mk.injEq] at hlg
        obtain ⟨rfl, rfl⟩ := hlg
        clear hst HL hk
        go_wp2_with (go_at_call 39; refine (HDK.out _ h).mono ?_; rintro e w1 ⟨rfl, hw1⟩; subst w1)
        go_loop [9] (fun i => ∃ q : Nat, q ≤ ts.length ∧ i = .int .i64 ((q : Int) - 1)) (fun i => (intOf i + 1).toNat)
        case atStart => exact ⟨ts.length, by omega, rfl⟩
        case round =>
          obtain ⟨q, hq, rfl⟩ := hrel
          by_cases hq0 : q = 0
          · subst hq0
            go_wp2
            go_ret2
            exact ⟨rfl, Below.refl _ _⟩
          · go_wp2
            go_ret2
            exact ⟨rfl, Below.refl _ _⟩
      · obtain ⟨j, hj, j1, j2, j3, j4⟩ := hst.2 (st.length - 1) (by omega)
        have hne : st ≠ [] := by intro e; rw [e] at h0; simp at h0
        have hgl : st.getLast? = some st[st.length - 1] := by rw [List.getLast?_eq_getElem?, List.getElem?_eq_getElem (by omega)]
        simp only [Sc.listsGo, hgl, Prod.mk.injEq] at hlg
        obtain ⟨rfl, hlp⟩ := hlg
        rw [← j2] at hlp
        have HLP := hide hlp
        have HJ1 := hide j1
        have HJ3 := hide j3
        have HJ4 := hide j4
        have hlp2 := HDP.out
        have HDQ := hide hlp2
        clear hlp hlp2 j1 j2 j3 j4 hgl hne hst HL hk
        go_wp2_with (go_at_call 39; refine (HDK.out _ h).mono ?_; rintro e w1 ⟨rfl, hw1⟩; subst w1)
        go_loop [9] (fun i => ∃ p : Nat, j ≤ p ∧ p < ts.length ∧ i = .int .i64 (p : Int)) (fun i => (intOf i + 1).toNat)
        case atStart => exact ⟨ts.length - 1, by omega, by omega, by go_num⟩
        case round =>
          obtain ⟨p, hp1, hp2, rfl⟩ := hrel
          obtain ⟨g, hg1, _, _, hg4, hcap, c0, _, c2, _⟩ := h.at p hp2
          subst hg1
          have HDR := hide (HDQ.out p (by omega))
          by_cases hpj : p = j
          · subst hpj
            rw [HJ1.out] at c0
            rw [HLP.out] at c2
            rw [HJ3.out] at HDR
            have hcast : (((st.length - 1 : Nat) : Int) == (st.length : Int) - 1) = true := beq_iff_eq.2 (by omega)
            clear HJ1 HLP HJ3 HJ4
            go_wp2_with (go_at_call 39; refine (HDR.out _ h).mono ?_; rintro e w1 ⟨rfl, hw1⟩; subst w1)
            go_quiet (fail)
            go_wp2
            go_ret2
            exact ⟨rfl, below_drewN (Below.refl _ _) _⟩
          · have hge := HJ4.out p (by omega) (by omega)
            generalize Sc.dpGo (ts.take p) 0 = D at HDR hge
            generalize ts[p].kind = kk at c0
            clear HJ1 HLP HJ3 HJ4 c2
            cases k2 : (kk == 2) with
            | true =>
              have hdb : (D == (st.length : Int) - 1) = false := beq_eq_false_iff_ne.2 (by omega)
              go_wp2_with (go_at_call 39; refine (HDR.out _ h).mono ?_; rintro e w1 ⟨rfl, hw1⟩; subst w1)
              go_round
              case rel => exact ⟨p - 1, by omega, by omega, by go_num⟩
              case measure => simp [intOf]
            | false =>
              go_wp2
              go_round
              case rel => exact ⟨p - 1, by omega, by omega, by go_num⟩
              case measure => simp [intOf]
end Go.Proofs.YtoieklacpkahbaaDoor
