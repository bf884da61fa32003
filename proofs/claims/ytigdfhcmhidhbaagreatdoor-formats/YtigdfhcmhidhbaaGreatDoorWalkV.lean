/- Walks: the second reader's tokens. -/
/- Walks: the second reader's deep and lists. -/
/- Walks: the second reader's Scan; sameTokens. -/
import Derived.Test.YtigdfhcmhidhbaaGreatDoorWalkS
import Derived.Test.YtigdfhcmhidhbaaGreatDoorPlainS
import Derived.Test.YtigdfhcmhidhbaaGreatDoorPlainT
namespace Go.Proofs.YtigdfhcmhidhbaaGreatDoor
open Go.RowKit

theorem rt_step {w wr w' : World} {u v' : Value} {acc : List Sc.Tok} {t : Sc.Tok} {o1 o2 : Obj} (hown : Owns wr w.heap.size u acc) (hbel : Below w.heap.size w wr)
    (ho : w'.ownsRow w.heap.size 52 4 v' (acc.length + 1) (Sc.tcells acc ++ t.cells)) (hg : ((wr.alloc o1).alloc o2).grownBy w' u.ownBlock) : Owns w' w.heap.size v' (acc ++ [t]) ∧ Below w.heap.size w w' := by
  refine ⟨?_, ?_⟩
  · unfold Owns
    rw [Sc.tcells_append, List.length_append]
    simpa [Sc.tcells] using ho
  · have s1 := hbel.size
    exact ((hbel.alloc s1 o1).alloc (by simp; omega) o2).grown hg (by simp; omega) fun k hk => (World.ownsRow.lt hown k hk).1

theorem take_line {T m suf : List UInt8} {i n : Nat} (hT : T.drop i = m ++ suf) (hn : n ≤ m.length) : (T.drop i).take n = m.take n := by
  rw [hT, List.take_append_of_le_length hn]
theorem trim3_line (m : List UInt8) (h : Sc.No10 m) : Lib.trimRightS m [32, 9, 10] = m.take (Sc.trimLen m) := by
  rw [← (Sc.trimRightS_eq m).1]
  have key : ∀ x : List UInt8, Sc.No10 x → x.dropWhile (fun c => ([32, 9, 10] : List UInt8).contains c) = x.dropWhile (fun c => ([32, 9] : List UInt8).contains c) := by
    intro x
    induction x with
    | nil => intro _; rfl
    | cons c x ih =>
      intro hx
      have hc := hx c (List.mem_cons_self ..)
      have e : ([32, 9, 10] : List UInt8).contains c = ([32, 9] : List UInt8).contains c := by
        simp only [List.contains_cons, List.contains_nil, Bool.or_false]
        have : (c == 10) = false := by simpa using hc
        rw [this, Bool.or_false]
      rw [List.dropWhile_cons, List.dropWhile_cons, e, ih hx.tail]
  unfold Lib.trimRightS
  rw [key m.reverse (fun c hc => h c (List.mem_reverse.1 hc))]

set_option maxRecDepth 20000 in
set_option maxHeartbeats 2000000 in
theorem rtokens_any (s : ByteArray) (w : World) (hs : s.size ≤ 4096) (ts : List Sc.Tok) (er0 : Int) (pl0 : Nat) (HTR : Hid (Sc.toksRes s.data.toList = (ts, er0, pl0))) :
    Calls Tryz.prog 26 #[.string s] w fun e w' => ∃ v, e = .returned (.tuple #[v, .int .i64 er0, .int .i64 (pl0 : Nat)]) ∧ Owns w' w.heap.size v ts ∧ Below w.heap.size w w' := by
  have hz := Sc.lsize s
  obtain ⟨i0, hi, hz0, hz1, hz2⟩ := info_parts infoTok
  have HST := hide (Sc.RState.start s.data.toList)
  rw [HTR.out] at HST
  go_enter Tryz.func26, Tryz.ntmps26
  go_wp2
  go_loopw [5, 6] (fun v x wr => ∃ (i : Nat) (acc : List Sc.Tok), i ≤ s.size ∧ acc.length ≤ i ∧ x = .int .i64 i ∧ Owns wr w.heap.size v acc ∧ Below w.heap.size w wr ∧ Hid (Sc.RState s.data.toList (ts, er0, pl0) i acc)) (fun _ x _ => s.size - (intOf x).toNat)
  case atStart => exact ⟨0, [], by omega, by simp, rfl, Owns.nil _ _, Below.refl _ _, HST⟩
  case round =>
    obtain ⟨i, acc, h1, h2, rfl, hown, hbel, HR⟩ := hrel
    obtain ⟨ao, cp, hoe⟩ := hown.shape
    rw [hoe] at hown
    rw [hoe]
    clear hoe
    by_cases hlt : i < s.size
    · have hbk := rblank_any s[i]
      cases hb : Sc.bl3 s[i] with
      | true =>
        have HR2 := hide (HR.out.blank (by omega) hb)
        rw [hb] at hbk
        have HBK := hide hbk
        clear hbk hb HR
        go_wp2_with (go_at_call 43; refine (HBK.out _).mono ?_; rintro e w1 ⟨rfl, hw1⟩; subst w1)
        go_roundw
        case rel => exact ⟨i + 1, acc, by omega, by omega, by go_num, hown, hbel, HR2⟩
        case measure => simp [intOf]; omega
      | false =>
        obtain ⟨t, suf, q1, q2, q3, q4, q5⟩ := HR.out.step (by omega) hb
        have ec : s.data.toList[i]'(by omega) = s[i] := rfl
        rw [ec] at q1 q3 q4 q5
        clear ec
        obtain ⟨⟨kd, n, er⟩, hrt⟩ : ∃ R, Sc.readTok (s[i] :: t) = R := ⟨_, rfl⟩
        have q6 := q5 kd n er hrt
        have HTK := hide (fun W => token_any s i s[i] t suf W hs hlt rfl q1 q2 q3 kd n er hrt q4)
        rw [hb] at hbk
        have HBK := hide hbk
        clear hbk q5 hb
        by_cases her : er = 0
        · subst her
          obtain ⟨p1, p2, p3, p4, p5⟩ := q6.2 rfl
          have hml : i + (s[i] :: t).length ≤ s.size := by
            have := congrArg List.length q1
            rw [List.length_drop, List.length_append] at this; omega
          generalize hm : s[i] :: t = m at *
          by_cases hk : kd = 5
          · have hk5 := hk
            subst hk5
            rw [if_pos rfl] at p4
            have HT2 : Hid (∀ W, Calls Tryz.prog 44 #[.string s, .int .i64 i] W fun e w' => e = .returned (.tuple #[.int .i64 5, .int .i64 ((i : Int) + (m.length : Int))]) ∧ w' = W) := by
              intro W; have := HTK.out W; simpa [Sc.rkOf, Sc.reOf] using this
            have hex : (s.extract i (i + m.length)).data.toList = m := by
              rw [Lib.extract_data, show i + m.length - i = m.length by omega, take_line q1 (Nat.le_refl _), List.take_length]
            have hmz : (s.extract i (i + m.length)).size = m.length := by rw [← Sc.lsize, hex]
            have HTM : Hid (∀ W, Calls Tryz.prog 45 #[.string (s.extract i (i + m.length))] W fun e w' => e = .returned (.string ⟨(m.take n).toArray⟩) ∧ w' = W) := by
              intro W
              have := trimmed_any (s.extract i (i + m.length)) W (by omega)
              rw [hex, trim3_line m q3, ← p3 rfl] at this; exact this
            have HAL := hide (fun W => alone_any s i W hs (by omega))
            clear hex hmz HTK hrt q1 q2 q3 q4 q6 p3 HR hm
            cases hal : Sc.alB s.data.toList i with
            | true =>
              rw [hal] at p4 HAL
              have HR2 := hide p4
              clear p4 p5 hal
              go_wp2_with (first
                | (go_at_call 43; refine (HBK.out _).mono ?_; rintro e w1 ⟨rfl, hw1⟩; subst w1)
                | (go_at_call 44; refine (HT2.out _).mono ?_; rintro e w1 ⟨rfl, hw1⟩; subst w1)
                | (go_at_call 45; refine (HTM.out _).mono ?_; rintro e w1 ⟨rfl, hw1⟩; subst w1)
                | (go_at_call 46; refine (HAL.out _).mono ?_; rintro e w1 ⟨rfl, hw1⟩; subst w1)
                | (at_builtin; refine wpList_append_own _ rfl (.tmp 76) (.tmp 78) 26 rfl w.heap.size 52 i0 _ 4 40 Tryz.underlying26 hi hz0 hz1 hz2 rfl (by decide) _ _ _ rfl (World.ownsRow.alloc (World.ownsRow.alloc hown _) _) ⟨wr.heap.size + 1, 0, none⟩ 1 1 [.int .i64 5, .string ⟨(m.take n).toArray⟩, .int .i64 i, .bool false] rfl rfl (four_new2 _ _ _ _ _ _ _) (four_one _ _ _ _) ?c3 ?c4 ?c5 ?_))
              case c3 => unfold maxLen; omega
              case c4 => omega
              case c5 => have := hbel.size; simp; omega
              intro v' w' hown' hgrow hnn
              have hst := rt_step (t := ⟨5, m.take n, i, false⟩) hown hbel hown' hgrow
              clear hown' hgrow hnn
              go_wp2
              go_roundw
              case rel => exact ⟨i + m.length, _, by omega, by simp; omega, by go_num, hst.1, hst.2, HR2⟩
              case measure => simp [intOf]; omega
            | false =>
              rw [hal] at p4 HAL
              have hne := p5 hal
              have hlen : 0 < acc.length := by
                cases acc with
                | nil => exact absurd rfl hne
                | cons _ _ => simp
              have hel := Sc.endsEl_last acc (by omega)
              obtain ⟨g, hg1, _, hg3, hg4, hcap, c0, _, _, _⟩ := hown.at (acc.length - 1) (by omega)
              subst hg1
              generalize acc[acc.length - 1].kind = kk at c0 hel
              have p6 : Sc.RState s.data.toList (ts, er0, pl0) (i + m.length) (acc ++ [⟨5, m.take n, i, (kk == 1) || (kk == 3)⟩]) := by rw [← hel]; exact p4
              clear p4 p5 hal hne hel
              cases k1 : (kk == 1) with
              | true =>
                rw [k1] at p6
                have HR2 := hide p6
                clear p6
                go_wp2_with (first
                  | (go_at_call 43; refine (HBK.out _).mono ?_; rintro e w1 ⟨rfl, hw1⟩; subst w1)
                  | (go_at_call 44; refine (HT2.out _).mono ?_; rintro e w1 ⟨rfl, hw1⟩; subst w1)
                  | (go_at_call 45; refine (HTM.out _).mono ?_; rintro e w1 ⟨rfl, hw1⟩; subst w1)
                  | (go_at_call 46; refine (HAL.out _).mono ?_; rintro e w1 ⟨rfl, hw1⟩; subst w1)
                  | (at_builtin; refine wpList_append_own _ rfl (.tmp 76) (.tmp 78) 26 rfl w.heap.size 52 i0 _ 4 40 Tryz.underlying26 hi hz0 hz1 hz2 rfl (by decide) _ _ _ rfl (World.ownsRow.alloc (World.ownsRow.alloc hown _) _) ⟨wr.heap.size + 1, 0, none⟩ 1 1 [.int .i64 5, .string ⟨(m.take n).toArray⟩, .int .i64 i, .bool true] rfl rfl (four_new2 _ _ _ _ _ _ _) (four_one _ _ _ _) ?c3 ?c4 ?c5 ?_))
                case c3 => unfold maxLen; omega
                case c4 => omega
                case c5 => have := hbel.size; simp; omega
                intro v' w' hown' hgrow hnn
                have hst := rt_step (t := ⟨5, m.take n, i, true⟩) hown hbel hown' hgrow
                clear hown' hgrow hnn
                go_wp2
                go_roundw
                case rel => exact ⟨i + m.length, _, by omega, by simp; omega, by go_num, hst.1, hst.2, HR2⟩
                case measure => simp [intOf]; omega
              | false =>
              cases k3 : (kk == 3) with
              | true =>
                rw [k1, k3] at p6
                have HR2 := hide p6
                clear p6
                go_wp2_with (first
                  | (go_at_call 43; refine (HBK.out _).mono ?_; rintro e w1 ⟨rfl, hw1⟩; subst w1)
                  | (go_at_call 44; refine (HT2.out _).mono ?_; rintro e w1 ⟨rfl, hw1⟩; subst w1)
                  | (go_at_call 45; refine (HTM.out _).mono ?_; rintro e w1 ⟨rfl, hw1⟩; subst w1)
                  | (go_at_call 46; refine (HAL.out _).mono ?_; rintro e w1 ⟨rfl, hw1⟩; subst w1)
                  | (at_builtin; refine wpList_append_own _ rfl (.tmp 76) (.tmp 78) 26 rfl w.heap.size 52 i0 _ 4 40 Tryz.underlying26 hi hz0 hz1 hz2 rfl (by decide) _ _ _ rfl (World.ownsRow.alloc (World.ownsRow.alloc hown _) _) ⟨wr.heap.size + 1, 0, none⟩ 1 1 [.int .i64 5, .string ⟨(m.take n).toArray⟩, .int .i64 i, .bool true] rfl rfl (four_new2 _ _ _ _ _ _ _) (four_one _ _ _ _) ?c3 ?c4 ?c5 ?_))
                case c3 => unfold maxLen; omega
                case c4 => omega
                case c5 => have := hbel.size; simp; omega
                intro v' w' hown' hgrow hnn
                have hst := rt_step (t := ⟨5, m.take n, i, true⟩) hown hbel hown' hgrow
                clear hown' hgrow hnn
                go_wp2
                go_roundw
                case rel => exact ⟨i + m.length, _, by omega, by simp; omega, by go_num, hst.1, hst.2, HR2⟩
                case measure => simp [intOf]; omega
              | false =>
                rw [k1, k3] at p6
                have HR2 := hide p6
                clear p6
                go_wp2_with (first
                  | (go_at_call 43; refine (HBK.out _).mono ?_; rintro e w1 ⟨rfl, hw1⟩; subst w1)
                  | (go_at_call 44; refine (HT2.out _).mono ?_; rintro e w1 ⟨rfl, hw1⟩; subst w1)
                  | (go_at_call 45; refine (HTM.out _).mono ?_; rintro e w1 ⟨rfl, hw1⟩; subst w1)
                  | (go_at_call 46; refine (HAL.out _).mono ?_; rintro e w1 ⟨rfl, hw1⟩; subst w1)
                  | (at_builtin; refine wpList_append_own _ rfl (.tmp 76) (.tmp 78) 26 rfl w.heap.size 52 i0 _ 4 40 Tryz.underlying26 hi hz0 hz1 hz2 rfl (by decide) _ _ _ rfl (World.ownsRow.alloc (World.ownsRow.alloc hown _) _) ⟨wr.heap.size + 1, 0, none⟩ 1 1 [.int .i64 5, .string ⟨(m.take n).toArray⟩, .int .i64 i, .bool false] rfl rfl (four_new2 _ _ _ _ _ _ _) (four_one _ _ _ _) ?c3 ?c4 ?c5 ?_))
                case c3 => unfold maxLen; omega
                case c4 => omega
                case c5 => have := hbel.size; simp; omega
                intro v' w' hown' hgrow hnn
                have hst := rt_step (t := ⟨5, m.take n, i, false⟩) hown hbel hown' hgrow
                clear hown' hgrow hnn
                go_wp2
                go_roundw
                case rel => exact ⟨i + m.length, _, by omega, by simp; omega, by go_num, hst.1, hst.2, HR2⟩
                case measure => simp [intOf]; omega
          · have hkb : (kd == 5) = false := by simpa using hk
            rw [if_neg hk, hkb] at p4
            have HR2 := hide p4
            have HT2 : Hid (∀ W, Calls Tryz.prog 44 #[.string s, .int .i64 i] W fun e w' => e = .returned (.tuple #[.int .i64 kd, .int .i64 ((i : Int) + (n : Int))]) ∧ w' = W) := by
              intro W; have := HTK.out W; simpa [Sc.rkOf, Sc.reOf, hk] using this
            have htc : (⟨kd, m.take n, i, false⟩ : Sc.Tok).cells = [.int .i64 kd, .string (s.extract i (i + n)), .int .i64 i, .bool false] := by
              rw [← take_line q1 p2]; exact tok_cells s i n kd i false
            have HTC := hide htc
            clear htc HTK hrt q1 q2 q3 q4 q6 p3 p4 p5 HR hm hk
            go_wp2_with (first
              | (go_at_call 43; refine (HBK.out _).mono ?_; rintro e w1 ⟨rfl, hw1⟩; subst w1)
              | (go_at_call 44; refine (HT2.out _).mono ?_; rintro e w1 ⟨rfl, hw1⟩; subst w1)
              | (at_builtin; refine wpList_append_own _ rfl (.tmp 76) (.tmp 78) 26 rfl w.heap.size 52 i0 _ 4 40 Tryz.underlying26 hi hz0 hz1 hz2 rfl (by decide) _ _ _ rfl (World.ownsRow.alloc (World.ownsRow.alloc hown _) _) ⟨wr.heap.size + 1, 0, none⟩ 1 1 [.int .i64 kd, .string (s.extract i (i + n)), .int .i64 i, .bool false] rfl rfl (four_new2 _ _ _ _ _ _ _) (four_one _ _ _ _) ?c3 ?c4 ?c5 ?_))
            case c3 => unfold maxLen; omega
            case c4 => omega
            case c5 => have := hbel.size; simp; omega
            intro v' w' hown' hgrow hnn
            rw [← HTC.out] at hown'
            have hst := rt_step hown hbel hown' hgrow
            clear hown' hgrow hnn
            go_wp2
            go_roundw
            case rel => exact ⟨i + n, _, by omega, by simp; omega, by go_num, hst.1, hst.2, HR2⟩
            case measure => simp [intOf]; omega
        · have hTR := q6.1 her
          simp only [Prod.mk.injEq] at hTR
          obtain ⟨rfl, rfl, rfl⟩ := hTR
          have hee := Sc.readTok_err s[pl0] t
          rw [hrt] at hee
          have hee := hee her
          simp only at hee
          have HT2 : Hid (∀ W, Calls Tryz.prog 44 #[.string s, .int .i64 pl0] W fun e w' => e = .returned (.tuple #[.int .i64 1, .int .i64 (-1)]) ∧ w' = W) := by
            intro W; have := HTK.out W; simpa [Sc.rkOf, Sc.reOf, her] using this
          clear HTK hrt q1 q2 q3 q4 q6 HR
          by_cases h34 : s[pl0] = 34
          · have hq : ((s[pl0].toNat : Int) == 34) = true := by rw [h34]; rfl
            obtain rfl := hee.1 h34
            clear hee h34 HTR HST her
            go_wp2_with (first
              | (go_at_call 43; refine (HBK.out _).mono ?_; rintro e w1 ⟨rfl, hw1⟩; subst w1)
              | (go_at_call 44; refine (HT2.out _).mono ?_; rintro e w1 ⟨rfl, hw1⟩; subst w1))
            go_ret3
            exact ⟨.slice none 0 0, rfl, Owns.nil _ _, hbel⟩
          · have hq : ((s[pl0].toNat : Int) == 34) = false := by rw [← u8b (d := 34)]; simpa using h34
            obtain rfl := hee.2 h34
            clear hee h34 HTR HST her
            go_wp2_with (first
              | (go_at_call 43; refine (HBK.out _).mono ?_; rintro e w1 ⟨rfl, hw1⟩; subst w1)
              | (go_at_call 44; refine (HT2.out _).mono ?_; rintro e w1 ⟨rfl, hw1⟩; subst w1))
            go_ret3
            exact ⟨.slice none 0 0, rfl, Owns.nil _ _, hbel⟩
    · have hTR := HR.out.done (by omega)
      simp only [Prod.mk.injEq] at hTR
      obtain ⟨rfl, rfl, rfl⟩ := hTR
      clear HTR HST HR
      go_wp2
      go_ret3
      exact ⟨_, rfl, hown, hbel⟩
end Go.Proofs.YtigdfhcmhidhbaaGreatDoor

namespace Go.Proofs.YtigdfhcmhidhbaaGreatDoor
open Go.RowKit

set_option maxHeartbeats 800000 in
theorem deep_any (ao : Option Addr) (cap : Nat) (ts : List Sc.Tok) (B0 : Nat) (w : World) (h : Owns w B0 (.slice ao ts.length cap) ts) (hn : ts.length ≤ 4096) (n : Nat) (hnl : n ≤ ts.length) :
    Calls Tryz.prog 47 #[.slice ao ts.length cap, .int .i64 n] w fun e w' => e = .returned (.int .i64 (Sc.dpGo (ts.take n) 0)) ∧ w' = w := by
  generalize hX : Sc.dpGo (ts.take n) 0 = X
  have HX := hide hX; clear hX
  go_enter Tryz.func47, Tryz.ntmps47
  go_wp2
  go_loop [5, 6] (fun d i => ∃ (k : Nat) (e : Int), k ≤ n ∧ 0 ≤ e ∧ e ≤ k ∧ i = .int .i64 k ∧ d = .int .i64 e ∧ Hid (X = Sc.dpGo ((ts.take n).drop k) e)) (fun _ i => n - (intOf i).toNat)
  case atStart => exact ⟨0, 0, by omega, by omega, by omega, rfl, rfl, HX.out.symm⟩
  case round =>
    obtain ⟨k, e, h1, h2, h3, rfl, rfl, HK⟩ := hrel
    by_cases hlt : k < n
    · obtain ⟨g, hg1, _, _, hg4, hcap, c0, _, _, _⟩ := h.at k (by omega)
      subst hg1
      have hlen : (ts.take n).length = n := by rw [List.length_take]; omega
      have HS : Hid (X = if Sc.dstep e ts[k] < 0 then Sc.dstep e ts[k] else Sc.dpGo ((ts.take n).drop (k + 1)) (Sc.dstep e ts[k])) := by
        rw [HK.out, List.drop_eq_getElem_cons (by omega), Sc.dpGo, List.getElem_take]; exact hide rfl
      unfold Sc.dstep at HS
      generalize ts[k].kind = kk at c0 HS
      clear HK hlen
      cases k2 : (kk == 2) with
      | true =>
        have e2 : kk = 2 := by simpa using k2
        have k3 : (kk == 3) = false := by rw [e2]; rfl
        have HE : Hid (X = Sc.dpGo ((ts.take n).drop (k + 1)) (e + 1)) := by
          have hs := HS.out
          rw [if_pos e2, if_neg (by omega : ¬ kk = 3), if_neg (by omega), Int.sub_zero] at hs; exact hs
        clear HS e2
        go_wp2
        go_round
        case rel => exact ⟨k + 1, e + 1, by omega, by omega, by omega, by go_num, rfl, HE⟩
        case measure => simp [intOf]; omega
      | false =>
      have n2 : ¬ kk = 2 := by simpa using k2
      cases k3 : (kk == 3) with
      | true =>
        have e3 : kk = 3 := by simpa using k3
        by_cases he : e = 0
        · have HE : Hid (X = e - 1) := by
            have hs := HS.out
            rw [if_neg n2, if_pos e3, if_pos (by omega), Int.add_zero] at hs; exact hs
          clear HS e3 n2
          go_wp2
          go_ret
          exact ⟨ret_int (by rw [HE.out]; omega), rfl⟩
        · have HE : Hid (X = Sc.dpGo ((ts.take n).drop (k + 1)) (e - 1)) := by
            have hs := HS.out
            rw [if_neg n2, if_pos e3, if_neg (by omega), Int.add_zero] at hs; exact hs
          clear HS e3 n2
          go_wp2
          go_round
          case rel => exact ⟨k + 1, e - 1, by omega, by omega, by omega, by go_num, rfl, HE⟩
          case measure => simp [intOf]; omega
      | false =>
        have n3 : ¬ kk = 3 := by simpa using k3
        have HE : Hid (X = Sc.dpGo ((ts.take n).drop (k + 1)) e) := by
          have hs := HS.out
          rw [if_neg n2, if_neg n3, if_neg (by omega), Int.add_zero, Int.sub_zero] at hs; exact hs
        clear HS n3 n2
        go_wp2
        go_round
        case rel => exact ⟨k + 1, e, by omega, by omega, by omega, by go_num, rfl, HE⟩
        case measure => simp [intOf]; omega
    · have HE : Hid (X = e) := by
        rw [HK.out, List.drop_eq_nil_of_le (by rw [List.length_take]; omega)]; exact hide rfl
      go_wp2
      go_ret
      exact ⟨ret_int HE.out.symm, rfl⟩

theorem head64 {c : UInt8} {r : List UInt8} {h : 0 < (⟨(c :: r).toArray⟩ : ByteArray).size} : (⟨(c :: r).toArray⟩ : ByteArray)[0]'h = c := rfl

set_option maxRecDepth 20000 in
set_option maxHeartbeats 4000000 in
theorem rlists_any (ao : Option Addr) (cap : Nat) (ts : List Sc.Tok) (B0 : Nat) (w : World) (h : Owns w B0 (.slice ao ts.length cap) ts) (hn : ts.length ≤ 4096) (hsh : ∀ t ∈ ts, Sc.Shape t) (le : Int) (lp : Int) (HL : Hid (Sc.listsRes ts = (le, lp))) :
    Calls Tryz.prog 27 #[.slice ao ts.length cap] w fun e w' => e = .returned (.tuple #[.int .i64 le, .int .i64 lp]) ∧ Below w.heap.size w w' := by
  have HSH := hide hsh; clear hsh
  have HDP := hide (fun n hnl W (hW : Owns W B0 (.slice ao ts.length cap) ts) => deep_any ao cap ts B0 W hW hn n hnl)
  go_enter Tryz.func27, Tryz.ntmps27
  go_wp2
  go_loop [5] (fun i => ∃ (k : Nat) (st : List Int), k ≤ ts.length ∧ st.length ≤ 32 ∧ i = .int .i64 k ∧ Hid (Sc.listsGo (ts.drop k) st = (le, lp)) ∧ Hid (Sc.Stk (ts.take k) st)) (fun i => ts.length - (intOf i).toNat)
  case atStart => exact ⟨0, [], by omega, by simp, rfl, HL, Sc.Stk.nil⟩
  case round =>
    obtain ⟨k, st, h1, h2, rfl, HK, HST⟩ := hrel
    by_cases hlt : k < ts.length
    · obtain ⟨g, hg1, _, _, hg4, hcap, c0, c1, c2, c3⟩ := h.at k hlt
      subst hg1
      have hd : ts.drop k = ts[k] :: ts.drop (k + 1) := List.drop_eq_getElem_cons hlt
      have ht : ts.take (k + 1) = ts.take k ++ [ts[k]] := List.take_succ_eq_append_getElem hlt
      have hs := HSH.out ts[k] (List.getElem_mem hlt)
      have hlg := HK.out
      rw [hd] at hlg
      have hdp : Sc.dpGo (ts.take (k + 1)) 0 = Sc.dstep st.length ts[k] := by rw [ht]; exact Sc.dp_next HST.out
      have hpush := fun (hk : ts[k].kind = 2) => Sc.Stk.push (t := ts[k]) HST.out hk
      have hpop := fun (hk : ts[k].kind = 3) hs => Sc.Stk.pop (t := ts[k]) HST.out hk hs
      have hstay := fun (h2 : ts[k].kind ≠ 2) (h3 : ts[k].kind ≠ 3) => Sc.Stk.stay (t := ts[k]) HST.out h2 h3
      rw [← ht] at hpush hpop hstay
      have HDK := HDP.out (k + 1) (by omega)
      rw [hdp] at HDK
      have HDK := hide HDK
      obtain ⟨t, hte⟩ : ∃ t, t = ts[k] := ⟨_, rfl⟩
      rw [← hte] at hs hlg c0 c1 c2 c3 hpush hpop hstay HDK
      clear hd ht hte hdp HK HST
      rw [Sc.listsGo] at hlg
      obtain ⟨tk, tt, tp, tb⟩ := t
      unfold Sc.dstep at HDK
      simp only at hs hlg c0 c1 c2 c3 hpush hpop hstay HDK
      have hs1 := hs.2.1
      simp only at hs1
      cases k2 : (tk == 2) with
      | true =>
        have e2 : tk = 2 := by simpa using k2
        subst e2
        have ht44 : ¬ tt = [44] := fun e => by have := hs1 e; omega
        rw [if_pos rfl] at hlg
        simp only [if_true, if_neg (show ¬ (2 : Int) = 3 by decide), Int.sub_zero] at HDK
        by_cases h32 : st.length = 32
        · rw [if_pos h32] at hlg
          simp only [Prod.mk.injEq] at hlg
          obtain ⟨rfl, rfl⟩ := hlg
          clear hpush hpop hstay hs hs1 HL
          go_wp2_with (go_at_call 47; refine (HDK.out _ h).mono ?_; rintro e w1 ⟨rfl, hw1⟩; subst w1)
          go_quiet (fail)
          go_wp2
          go_ret2
          exact ⟨rfl, below_drewN (Below.refl _ _) _⟩
        · rw [if_neg h32] at hlg
          have HG := hide hlg
          have HS2 := hide (hpush rfl)
          clear hpush hpop hstay hs hs1 hlg
          go_wp2_with (go_at_call 47; refine (HDK.out _ h).mono ?_; rintro e w1 ⟨rfl, hw1⟩; subst w1)
          go_round
          case rel => exact ⟨k + 1, _, by omega, by simp; omega, by go_num, HG, HS2⟩
          case measure => simp [intOf]; omega
      | false =>
      have n2 : ¬ tk = 2 := by simpa using k2
      rw [if_neg n2] at hlg
      cases k3 : (tk == 3) with
      | true =>
        have e3 : tk = 3 := by simpa using k3
        subst e3
        have ht44 : ¬ tt = [44] := fun e => by have := hs1 e; omega
        rw [if_pos rfl] at hlg
        simp only [if_true, if_neg (show ¬ (3 : Int) = 2 by decide), Int.add_zero] at HDK
        by_cases h00 : st.length = 0
        · rw [if_pos h00] at hlg
          simp only [Prod.mk.injEq] at hlg
          obtain ⟨rfl, rfl⟩ := hlg
          clear hpush hpop hstay hs hs1 HL
          go_wp2_with (go_at_call 47; refine (HDK.out _ h).mono ?_; rintro e w1 ⟨rfl, hw1⟩; subst w1)
          go_quiet (fail)
          go_wp2
          go_ret2
          exact ⟨rfl, below_drewN (Below.refl _ _) _⟩
        · rw [if_neg h00] at hlg
          have HG := hide hlg
          have HS2 := hide (hpop rfl h00)
          clear hpush hpop hstay hs hs1 hlg
          go_wp2_with (go_at_call 47; refine (HDK.out _ h).mono ?_; rintro e w1 ⟨rfl, hw1⟩; subst w1)
          go_round
          case rel => exact ⟨k + 1, _, by omega, by simp; omega, by go_num, HG, HS2⟩
          case measure => simp [intOf]; omega
      | false =>
      have n3 : ¬ tk = 3 := by simpa using k3
      rw [if_neg n3] at hlg
      have HS2 := hide (hstay n2 n3)
      simp only [if_neg n2, if_neg n3, Int.add_zero, Int.sub_zero] at HDK
      clear hpush hpop hstay
      cases k4 : (tk == 4) with
      | false =>
        have n4 : ¬ tk = 4 := by simpa using k4
        have ht44 : ¬ tt = [44] := fun e => n4 (hs1 e)
        rw [if_neg n4] at hlg
        have HG := hide hlg
        clear hs hs1 hlg n2 n3 n4
        go_wp2_with (go_at_call 47; refine (HDK.out _ h).mono ?_; rintro e w1 ⟨rfl, hw1⟩; subst w1)
        go_round
        case rel => exact ⟨k + 1, st, by omega, by omega, by go_num, HG, HS2⟩
        case measure => simp [intOf]; omega
      | true =>
        have e4 : tk = 4 := by simpa using k4
        subst e4
        rw [if_pos rfl] at hlg
        clear hs hs1 n2 n3
        by_cases hla : k + 1 = ts.length
        · have hlb : ((k : Int) + 1 == (ts.length : Int)) = true := beq_iff_eq.2 (by omega)
          rw [List.drop_eq_nil_of_le (by omega)] at hlg
          simp only [Sc.leads, Bool.false_eq_true, if_false, Prod.mk.injEq] at hlg
          obtain ⟨rfl, rfl⟩ := hlg
          clear HL hla HS2
          go_wp2_with (go_at_call 47; refine (HDK.out _ h).mono ?_; rintro e w1 ⟨rfl, hw1⟩; subst w1)
          go_quiet (fail)
          go_wp2
          go_ret2
          exact ⟨rfl, below_drewN (Below.refl _ _) _⟩
        · have hlb : ((k : Int) + 1 == (ts.length : Int)) = false := beq_eq_false_iff_ne.2 (by omega)
          have hnx : k + 1 < ts.length := by omega
          obtain ⟨g', hg1', _, _, _, _, f0, f1, _, _⟩ := h.at (k + 1) hnx
          injection hg1' with hg1'
          injection hg1' with hg1' _ _
          subst hg1'
          have hs2 := HSH.out ts[k + 1] (List.getElem_mem hnx)
          rw [List.drop_eq_getElem_cons hnx] at hlg
          obtain ⟨u, hue⟩ : ∃ u, u = ts[k + 1] := ⟨_, rfl⟩
          rw [← hue] at hlg f0 f1 hs2
          have HU : Hid (ts.drop (k + 1) = u :: ts.drop (k + 1 + 1)) := by rw [hue]; exact hide (List.drop_eq_getElem_cons hnx)
          clear hue
          obtain ⟨uk, ut, up, ub⟩ := u
          simp only at f0 f1
          have hpos := hs2.1
          have hsh2 := hs2.2.2.1
          have hkd2 := hs2.2.2.2
          simp only at hpos hsh2 hkd2
          match ut, hpos with
          | [], hpos => simp at hpos
          | c :: r, _ =>
          simp only [Sc.leads, Sc.leadsB] at hlg
          by_cases u3 : uk = 3
          · have q3 : (uk == 3) = true := by simpa using u3
            simp only [if_pos u3, Bool.false_eq_true, if_false, Prod.mk.injEq] at hlg
            obtain ⟨rfl, rfl⟩ := hlg
            clear HL hla HS2 hs2 hsh2 hkd2 u3 HU
            go_wp2_with (go_at_call 47; refine (HDK.out _ h).mono ?_; rintro e w1 ⟨rfl, hw1⟩; subst w1)
            go_quiet (fail)
            go_wp2
            go_ret2
            exact ⟨rfl, below_drewN (Below.refl _ _) _⟩
          have q3 : (uk == 3) = false := by simpa using u3
          by_cases u5 : uk = 5
          · have q5 : (uk == 5) = true := by simpa using u5
            simp only [if_neg u3, if_pos u5, Bool.false_eq_true, if_false, Prod.mk.injEq] at hlg
            obtain ⟨rfl, rfl⟩ := hlg
            clear HL hla HS2 hs2 hsh2 hkd2 u3 u5 HU
            go_wp2_with (go_at_call 47; refine (HDK.out _ h).mono ?_; rintro e w1 ⟨rfl, hw1⟩; subst w1)
            go_quiet (fail)
            go_wp2
            go_ret2
            exact ⟨rfl, below_drewN (Below.refl _ _) _⟩
          have q5 : (uk == 5) = false := by simpa using u5
          simp only [if_neg u3, if_neg u5] at hlg
          by_cases h44 : tt = [44]
          · subst h44
            by_cases hc64 : c = 64
            · subst hc64
              have u2 : ¬ uk = 2 := fun e => hsh2 (.inl e) rfl
              have u4 : ¬ uk = 4 := fun e => hsh2 (.inr e) rfl
              have u1 : uk = 1 := by omega
              have hhd : ((((⟨(64 :: r).toArray⟩ : ByteArray)[0]'(by show 0 < (64 :: r).toArray.size; simp)).toNat : Int) == 64) = true := by rw [head64]; rfl
              rw [if_pos u1] at hlg
              simp at hlg
              obtain ⟨rfl, rfl⟩ := hlg
              clear HL hla HS2 hs2 hsh2 hkd2 u1 u2 u3 u4 u5 HU
              go_wp2_with (go_at_call 47; refine (HDK.out _ h).mono ?_; rintro e w1 ⟨rfl, hw1⟩; subst w1)
              go_quiet (fail)
              go_wp2
              go_ret2
              exact ⟨rfl, below_drewN (Below.refl _ _) _⟩
            · have hhd : ((((⟨(c :: r).toArray⟩ : ByteArray)[0]'(by show 0 < (c :: r).toArray.size; simp)).toNat : Int) == 64) = false := by rw [head64, ← u8b (d := 64)]; simpa using hc64
              have hlg2 : Sc.listsGo (ts.drop (k + 1)) st = (le, lp) := by
                rw [HU.out, ← hlg]
                by_cases u1 : uk = 1
                · rw [if_pos u1]; simp [hc64]
                · rw [if_neg u1]; simp
              have HG := hide hlg2
              clear hlg hlg2 hs2 hsh2 hkd2 u3 u5 HU hc64
              go_wp2_with (go_at_call 47; refine (HDK.out _ h).mono ?_; rintro e w1 ⟨rfl, hw1⟩; subst w1)
              go_round
              case rel => exact ⟨k + 1, st, by omega, by omega, by go_num, HG, HS2⟩
              case measure => simp [intOf]; omega
          · have hlg2 : Sc.listsGo (ts.drop (k + 1)) st = (le, lp) := by
              rw [HU.out, ← hlg]
              by_cases u1 : uk = 1
              · rw [if_pos u1]; simp [h44]
              · rw [if_neg u1]; simp
            have HG := hide hlg2
            clear hlg hlg2 hs2 hsh2 hkd2 u3 u5 HU
            go_wp2_with (go_at_call 47; refine (HDK.out _ h).mono ?_; rintro e w1 ⟨rfl, hw1⟩; subst w1)
            go_round
            case rel => exact ⟨k + 1, st, by omega, by omega, by go_num, HG, HS2⟩
            case measure => simp [intOf]; omega
    · have hk : k = ts.length := by omega
      have hst := HST.out
      have hlg := HK.out
      rw [List.drop_eq_nil_of_le (by omega)] at hlg
      rw [hk, List.take_length] at hst
      have HDK := HDP.out ts.length (by omega)
      rw [List.take_length, hst.1] at HDK
      have HDK := hide HDK
      clear HK HST
      by_cases h0 : st.length = 0
      · have e : st = [] := List.eq_nil_of_length_eq_zero h0
        subst e
        simp only [Sc.listsGo, List.getLast?_nil, Prod.mk.injEq] at hlg
        obtain ⟨rfl, rfl⟩ := hlg
        clear hst HL hk
        go_wp2_with (go_at_call 47; refine (HDK.out _ h).mono ?_; rintro e w1 ⟨rfl, hw1⟩; subst w1)
        go_loop [9] (fun i => ∃ q : Nat, q ≤ ts.length ∧ i = .int .i64 ((q : Int) - 1)) (fun i => (intOf i + 1).toNat)
        case atStart => exact ⟨ts.length, by omega, rfl⟩
        case round =>
          obtain ⟨q, hq, rfl⟩ := hrel
          by_cases hq0 : q = 0
          · subst hq0
            go_wp2
            go_ret2
            exact ⟨rfl, Below.refl _ _⟩
          · go_wp2
            go_ret2
            exact ⟨rfl, Below.refl _ _⟩
      · obtain ⟨j, hj, j1, j2, j3, j4⟩ := hst.2 (st.length - 1) (by omega)
        have hne : st ≠ [] := by intro e; rw [e] at h0; simp at h0
        have hgl : st.getLast? = some st[st.length - 1] := by rw [List.getLast?_eq_getElem?, List.getElem?_eq_getElem (by omega)]
        simp only [Sc.listsGo, hgl, Prod.mk.injEq] at hlg
        obtain ⟨rfl, hlp⟩ := hlg
        rw [← j2] at hlp
        have HLP := hide hlp
        have HJ1 := hide j1
        have HJ3 := hide j3
        have HJ4 := hide j4
        have hlp2 := HDP.out
        have HDQ := hide hlp2
        clear hlp hlp2 j1 j2 j3 j4 hgl hne hst HL hk
        go_wp2_with (go_at_call 47; refine (HDK.out _ h).mono ?_; rintro e w1 ⟨rfl, hw1⟩; subst w1)
        go_loop [9] (fun i => ∃ p : Nat, j ≤ p ∧ p < ts.length ∧ i = .int .i64 (p : Int)) (fun i => (intOf i + 1).toNat)
        case atStart => exact ⟨ts.length - 1, by omega, by omega, by go_num⟩
        case round =>
          obtain ⟨p, hp1, hp2, rfl⟩ := hrel
          obtain ⟨g, hg1, _, _, hg4, hcap, c0, _, c2, _⟩ := h.at p hp2
          subst hg1
          have HDR := hide (HDQ.out p (by omega))
          by_cases hpj : p = j
          · subst hpj
            rw [HJ1.out] at c0
            rw [HLP.out] at c2
            rw [HJ3.out] at HDR
            have hcast : (((st.length - 1 : Nat) : Int) == (st.length : Int) - 1) = true := beq_iff_eq.2 (by omega)
            clear HJ1 HLP HJ3 HJ4
            go_wp2_with (go_at_call 47; refine (HDR.out _ h).mono ?_; rintro e w1 ⟨rfl, hw1⟩; subst w1)
            go_quiet (fail)
            go_wp2
            go_ret2
            exact ⟨rfl, below_drewN (Below.refl _ _) _⟩
          · have hge := HJ4.out p (by omega) (by omega)
            generalize Sc.dpGo (ts.take p) 0 = D at HDR hge
            generalize ts[p].kind = kk at c0
            clear HJ1 HLP HJ3 HJ4 c2
            cases k2 : (kk == 2) with
            | true =>
              have hdb : (D == (st.length : Int) - 1) = false := beq_eq_false_iff_ne.2 (by omega)
              go_wp2_with (go_at_call 47; refine (HDR.out _ h).mono ?_; rintro e w1 ⟨rfl, hw1⟩; subst w1)
              go_round
              case rel => exact ⟨p - 1, by omega, by omega, by go_num⟩
              case measure => simp [intOf]
            | false =>
              go_wp2
              go_round
              case rel => exact ⟨p - 1, by omega, by omega, by go_num⟩
              case measure => simp [intOf]
end Go.Proofs.YtigdfhcmhidhbaaGreatDoor

namespace Go.Proofs.YtigdfhcmhidhbaaGreatDoor
open Go.RowKit

set_option maxRecDepth 20000 in
set_option maxHeartbeats 2000000 in
theorem rscan_any (s : ByteArray) (w : World) (hs : s.size ≤ maxLen) (R : List Sc.Tok × Int × Int) (HR : Hid (Sc.scanRes s.data.toList = R)) :
    Calls Tryz.prog 11 #[.string s] w fun e w' => ∃ v, e = .returned (.tuple #[v, .int .i64 R.2.1, .int .i64 R.2.2]) ∧ Owns w' w.heap.size v R.1 ∧ Below w.heap.size w w' := by
  have hz := Sc.lsize s
  unfold maxLen at hs
  by_cases h4 : 4096 < s.size
  · have HX : Hid (R = ([], 1, 0)) := by
      rw [← HR.out]; unfold Sc.scanRes; rw [if_pos (by omega)]; exact hide rfl
    go_enter Tryz.func11, Tryz.ntmps11
    go_wp2
    go_ret3
    exact ⟨.slice none 0 0, by rw [HX.out]; rfl, by rw [HX.out]; exact Owns.nil _ _, Below.refl _ _⟩
  go_enter Tryz.func11, Tryz.ntmps11
  go_wp2
  go_loop [5] (fun i => ∃ k : Nat, k ≤ s.size ∧ i = .int .i64 k ∧ Hid (Sc.strangeAt s.data.toList = Sc.strangeI (s.data.toList.drop k) k)) (fun i => s.size - (intOf i).toNat)
  case atStart => exact ⟨0, by omega, rfl, rfl⟩
  case round =>
    obtain ⟨k, hk, rfl, HK⟩ := hrel
    by_cases hlt : k < s.size
    · have HHIT : Hid (Sc.strange s[k] = true → R = ([], 2, (k : Int))) := by
        intro hst
        have e := HK.out.trans (Sc.strangeI_hit _ _ (by omega) hst)
        rw [← HR.out]; unfold Sc.scanRes; rw [if_neg (by omega), if_pos (by rw [e]; omega), e]
      by_cases h9 : (s[k].toNat : Int) = 9
      · have hst := Sc.strange_no (c := s[k]) (.inl h9)
        have HS := hide hst; clear hst
        have b9 : ((s[k].toNat : Int) != 9) = false := by rw [h9]; rfl
        clear h9
        go_wp2
        go_round
        case rel => exact ⟨k + 1, by omega, by go_num, HK.out.trans (Sc.strangeI_on _ _ (by omega) (unhide HS))⟩
        case measure => simp [intOf]; omega
      have b9 : ((s[k].toNat : Int) != 9) = true := by simpa using h9
      by_cases h10 : (s[k].toNat : Int) = 10
      · have hst := Sc.strange_no (c := s[k]) (.inr (.inl h10))
        have HS := hide hst; clear hst
        have b10 : ((s[k].toNat : Int) != 10) = false := by rw [h10]; rfl
        clear h10
        go_wp2
        go_round
        case rel => exact ⟨k + 1, by omega, by go_num, HK.out.trans (Sc.strangeI_on _ _ (by omega) (unhide HS))⟩
        case measure => simp [intOf]; omega
      have b10 : ((s[k].toNat : Int) != 10) = true := by simpa using h10
      by_cases hlo : (s[k].toNat : Int) < 32
      · have HX := hide (HHIT.out (Sc.strange_yes (c := s[k]) h9 h10 (.inl hlo)))
        go_wp2
        go_ret3
        exact ⟨.slice none 0 0, by rw [HX.out]; rfl, by rw [HX.out]; exact Owns.nil _ _, Below.refl _ _⟩
      by_cases hhi : 126 < (s[k].toNat : Int)
      · have HX := hide (HHIT.out (Sc.strange_yes (c := s[k]) h9 h10 (.inr hhi)))
        go_wp2
        go_ret3
        exact ⟨.slice none 0 0, by rw [HX.out]; rfl, by rw [HX.out]; exact Owns.nil _ _, Below.refl _ _⟩
      · have hst := Sc.strange_no (c := s[k]) (.inr (.inr (by omega)))
        have HS := hide hst; clear hst
        go_wp2
        go_round
        case rel => exact ⟨k + 1, by omega, by go_num, HK.out.trans (Sc.strangeI_on _ _ (by omega) (unhide HS))⟩
        case measure => simp [intOf]; omega
    · have h5 : ¬ 0 ≤ Sc.strangeAt s.data.toList := by rw [HK.out, Sc.strangeI_end _ _ (by omega)]; decide
      have H5 := hide h5; clear h5
      obtain ⟨⟨ts, er, pl⟩, hT⟩ : ∃ T, Sc.toksRes s.data.toList = T := ⟨_, rfl⟩
      have HT := hide hT
      have HSH : Hid (∀ t ∈ ts, Sc.Shape t) := by have := Sc.toksRes_shape s.data.toList; rw [hT] at this; exact this
      clear hT
      have HRT := hide (fun W => rtokens_any s W (by omega) ts er pl HT)
      by_cases her : er = 0
      · subst her
        have hcov := Sc.toksRes_cov s.data.toList (by rw [HT.out])
        rw [HT.out] at hcov
        obtain ⟨_, hp2⟩ := hcov.pos
        simp only at hp2
        clear hcov
        obtain ⟨⟨ce, cp⟩, hC⟩ : ∃ C, Sc.listsRes ts = C := ⟨_, rfl⟩
        have HC := hide hC; clear hC
        by_cases hce : ce = 0
        · subst hce
          have HX : Hid (R = (ts, 0, 0)) := by
            rw [← HR.out]; unfold Sc.scanRes; rw [if_neg (by omega), if_neg H5.out, HT.out, if_neg (by simp), if_neg (by simp [HC.out])]; exact hide rfl
          go_wp2_with (first
            | (go_at_call 26; refine (HRT.out _).mono ?_; rintro e w2 ⟨v, rfl, hown, hb2⟩; obtain ⟨ao, cp0, rfl⟩ := hown.shape)
            | (go_at_call 27; refine (rlists_any ao cp0 ts _ _ hown (by omega) HSH.out 0 cp HC).mono ?_; rintro e w3 ⟨rfl, hb3⟩))
          go_ret3
          exact ⟨.slice ao ts.length cp0, by rw [HX.out]; rfl, by rw [HX.out]; exact hown.below hb3, hb2.trans (hb3.mono hb2.size)⟩
        · have hne : (ce != 0) = true := by simpa using hce
          have HX : Hid (R = ([], ce, cp)) := by
            rw [← HR.out]; unfold Sc.scanRes; rw [if_neg (by omega), if_neg H5.out, HT.out, if_neg (by simp), if_pos (by simpa [HC.out] using hce), HC.out]; exact hide rfl
          go_wp2_with (first
            | (go_at_call 26; refine (HRT.out _).mono ?_; rintro e w2 ⟨v, rfl, hown, hb2⟩; obtain ⟨ao, cp0, rfl⟩ := hown.shape)
            | (go_at_call 27; refine (rlists_any ao cp0 ts _ _ hown (by omega) HSH.out ce cp HC).mono ?_; rintro e w3 ⟨rfl, hb3⟩))
          go_ret3
          exact ⟨.slice none 0 0, by rw [HX.out]; rfl, by rw [HX.out]; exact Owns.nil _ _, hb2.trans (hb3.mono hb2.size)⟩
      · have hne : (er != 0) = true := by simpa using her
        have HX : Hid (R = ([], er, (pl : Int))) := by
          rw [← HR.out]; unfold Sc.scanRes; rw [if_neg (by omega), if_neg H5.out, HT.out, if_pos her]; exact hide rfl
        go_wp2_with (go_at_call 26; refine (HRT.out _).mono ?_; rintro e w2 ⟨v, rfl, hown, hb2⟩)
        go_ret3
        exact ⟨.slice none 0 0, by rw [HX.out]; rfl, by rw [HX.out]; exact Owns.nil _ _, hb2⟩

end Go.Proofs.YtigdfhcmhidhbaaGreatDoor
