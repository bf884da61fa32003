/- Walks: the second reader's tokens. -/
import Derived.Test.YtoieklacpkahbaaDoorWalkS
import Derived.Test.YtoieklacpkahbaaDoorPlainT
namespace Go.Proofs.YtoieklacpkahbaaDoor
open Go.RowKit

theorem rt_step {w wr w' : World} {u v' : Value} {acc : List Sc.Tok} {t : Sc.Tok} {o1 o2 : Obj} (hown : Owns wr w.heap.size u acc) (hbel : Below w.heap.size w wr)
    (ho : w'.ownsRow w.heap.size 37 4 v' (acc.length + 1) (Sc.tcells acc ++ t.cells)) (hg : ((wr.alloc o1).alloc o2).grownBy w' u.ownBlock) : Owns w' w.heap.size v' (acc ++ [t]) ∧ Below w.heap.size w w' := by
  refine ⟨?_, ?_⟩
  · unfold Owns
    rw [Sc.tcells_append, List.length_append]
    simpa [Sc.tcells] using ho
  · have s1 := hbel.size
    exact ((hbel.alloc s1 o1).alloc (by simp; omega) o2).grown hg (by simp; omega) fun k hk => (World.ownsRow.lt hown k hk).1

theorem take_line {T m suf : List UInt8} {i n : Nat} (hT : T.drop i = m ++ suf) (hn : n ≤ m.length) : (T.drop i).take n = m.take n := by
  rw [hT, List.take_append_of_le_length hn]
theorem trim3_line (m : List UInt8) (h : Sc.No10 m) : Lib.trimRightS m [32, 9, 10] = m.take (Sc.trimLen m) := by
  rw [← (Sc.trimRightS_eq m).1]
  have key : ∀ x : List UInt8, Sc.No10 x → x.dropWhile (fun c => ([32, 9, 10] : List UInt8).contains c) = x.dropWhile (fun c => ([32, 9] : List UInt8).contains c) := by
    intro x
    induction x with
    | nil => intro _; rfl
    | cons c x ih =>
      intro hx
      have hc := hx c (List.mem_cons_self ..)
      have e : ([32, 9, 10] : List UInt8).contains c = ([32, 9] : List UInt8).contains c := by
        simp only [List.contains_cons, List.contains_nil, Bool.or_false]
        have : (c == 10) = false := by simpa using hc
        rw [this, Bool.or_false]
      rw [List.dropWhile_cons, List.dropWhile_cons, e, ih hx.tail]
  unfold Lib.trimRightS
  rw [key m.reverse (fun c hc => h c (List.mem_reverse.1 hc))]

set_option maxRecDepth 20000 in
set_option maxHeartbeats 2000000 in
theorem rtokens_any (s : ByteArray) (w : World) (hs : s.size ≤ 4096) (ts : List Sc.Tok) (er0 : Int) (pl0 : Nat) (HTR : Hid (Sc.toksRes s.data.toList = (ts, er0, pl0))) :
    Calls Tryd.prog 23 #[.string s] w fun e w' => ∃ v, e = .returned (.tuple #[v, .int .i64 er0, .int .i64 (pl0 : Nat)]) ∧ Owns w' w.heap.size v ts ∧ Below w.heap.size w w' := by
  have hz := Sc.lsize s
  obtain ⟨i0, hi, hz0, hz1, hz2⟩ := info_parts infoTok
  have HST := hide (Sc.RState.start s.data.toList)
  rw [HTR.out] at HST
  go_enter Tryd.func23, Tryd.ntmps23
  go_wp2
  go_loopw [5, 6] (fun v x wr => ∃ (i : Nat) (acc : List Sc.Tok), i ≤ s.size ∧ acc.length ≤ i ∧ x = .int .i64 i ∧ Owns wr w.heap.size v acc ∧ Below w.heap.size w wr ∧ Hid (Sc.RState s.data.toList (ts, er0, pl0) i acc)) (fun _ x _ => s.size - (intOf x).toNat)
  case atStart => exact ⟨0, [], by omega, by simp, rfl, Owns.nil _ _, Below.refl _ _, HST⟩
  case round =>
    obtain ⟨i, acc, h1, h2, rfl, hown, hbel, HR⟩ := hrel
    obtain ⟨ao, cp, hoe⟩ := hown.shape
    rw [hoe] at hown
    rw [hoe]
    clear hoe
    by_cases hlt : i < s.size
    · have hbk := rblank_any s[i]
      cases hb : Sc.bl3 s[i] with
      | true =>
        have HR2 := hide (HR.out.blank (by omega) hb)
        rw [hb] at hbk
        have HBK := hide hbk
        clear hbk hb HR
        go_wp2_with (go_at_call 35; refine (HBK.out _).mono ?_; rintro e w1 ⟨rfl, hw1⟩; subst w1)
        go_roundw
        case rel => exact ⟨i + 1, acc, by omega, by omega, by go_num, hown, hbel, HR2⟩
        case measure => simp [intOf]; omega
      | false =>
        obtain ⟨t, suf, q1, q2, q3, q4, q5⟩ := HR.out.step (by omega) hb
        have ec : s.data.toList[i]'(by omega) = s[i] := rfl
        rw [ec] at q1 q3 q4 q5
        clear ec
        obtain ⟨⟨kd, n, er⟩, hrt⟩ : ∃ R, Sc.readTok (s[i] :: t) = R := ⟨_, rfl⟩
        have q6 := q5 kd n er hrt
        have HTK := hide (fun W => token_any s i s[i] t suf W hs hlt rfl q1 q2 q3 kd n er hrt q4)
        rw [hb] at hbk
        have HBK := hide hbk
        clear hbk q5 hb
        by_cases her : er = 0
        · subst her
          obtain ⟨p1, p2, p3, p4, p5⟩ := q6.2 rfl
          have hml : i + (s[i] :: t).length ≤ s.size := by
            have := congrArg List.length q1
            rw [List.length_drop, List.length_append] at this; omega
          generalize hm : s[i] :: t = m at *
          by_cases hk : kd = 5
          · have hk5 := hk
            subst hk5
            rw [if_pos rfl] at p4
            have HT2 : Hid (∀ W, Calls Tryd.prog 36 #[.string s, .int .i64 i] W fun e w' => e = .returned (.tuple #[.int .i64 5, .int .i64 ((i : Int) + (m.length : Int))]) ∧ w' = W) := by
              intro W; have := HTK.out W; simpa [Sc.rkOf, Sc.reOf] using this
            have hex : (s.extract i (i + m.length)).data.toList = m := by
              rw [Lib.extract_data, show i + m.length - i = m.length by omega, take_line q1 (Nat.le_refl _), List.take_length]
            have hmz : (s.extract i (i + m.length)).size = m.length := by rw [← Sc.lsize, hex]
            have HTM : Hid (∀ W, Calls Tryd.prog 37 #[.string (s.extract i (i + m.length))] W fun e w' => e = .returned (.string ⟨(m.take n).toArray⟩) ∧ w' = W) := by
              intro W
              have := trimmed_any (s.extract i (i + m.length)) W (by omega)
              rw [hex, trim3_line m q3, ← p3 rfl] at this; exact this
            have HAL := hide (fun W => alone_any s i W hs (by omega))
            clear hex hmz HTK hrt q1 q2 q3 q4 q6 p3 HR hm
            cases hal : Sc.alB s.data.toList i with
            | true =>
              rw [hal] at p4 HAL
              have HR2 := hide p4
              clear p4 p5 hal
              go_wp2_with (first
                | (go_at_call 35; refine (HBK.out _).mono ?_; rintro e w1 ⟨rfl, hw1⟩; subst w1)
                | (go_at_call 36; refine (HT2.out _).mono ?_; rintro e w1 ⟨rfl, hw1⟩; subst w1)
                | (go_at_call 37; refine (HTM.out _).mono ?_; rintro e w1 ⟨rfl, hw1⟩; subst w1)
                | (go_at_call 38; refine (HAL.out _).mono ?_; rintro e w1 ⟨rfl, hw1⟩; subst w1)
                | (at_builtin; refine wpList_append_own _ rfl (.tmp 76) (.tmp 78) 22 rfl w.heap.size 37 i0 _ 4 40 Tryd.underlying22 hi hz0 hz1 hz2 rfl (by decide) _ _ _ rfl (World.ownsRow.alloc (World.ownsRow.alloc hown _) _) ⟨wr.heap.size + 1, 0, none⟩ 1 1 [.int .i64 5, .string ⟨(m.take n).toArray⟩, .int .i64 i, .bool false] rfl rfl (four_new2 _ _ _ _ _ _ _) (four_one _ _ _ _) ?c3 ?c4 ?c5 ?_))
              case c3 => unfold maxLen; omega
              case c4 => omega
              case c5 => have := hbel.size; simp; omega
              intro v' w' hown' hgrow hnn
              have hst := rt_step (t := ⟨5, m.take n, i, false⟩) hown hbel hown' hgrow
              clear hown' hgrow hnn
              go_wp2
              go_roundw
              case rel => exact ⟨i + m.length, _, by omega, by simp; omega, by go_num, hst.1, hst.2, HR2⟩
              case measure => simp [intOf]; omega
            | false =>
              rw [hal] at p4 HAL
              have hne := p5 hal
              have hlen : 0 < acc.length := by
                cases acc with
                | nil => exact absurd rfl hne
                | cons _ _ => simp
              have hel := Sc.endsEl_last acc (by omega)
              obtain ⟨g, hg1, _, hg3, hg4, hcap, c0, _, _, _⟩ := hown.at (acc.length - 1) (by omega)
              subst hg1
              generalize acc[acc.length - 1].kind = kk at c0 hel
              have p6 : Sc.RState s.data.toList (ts, er0, pl0) (i + m.length) (acc ++ [⟨5, m.take n, i, (kk == 1) || (kk == 3)⟩]) := by rw [← hel]; exact p4
              clear p4 p5 hal hne hel
              cases k1 : (kk == 1) with
              | true =>
                rw [k1] at p6
                have HR2 := hide p6
                clear p6
                go_wp2_with (first
                  | (go_at_call 35; refine (HBK.out _).mono ?_; rintro e w1 ⟨rfl, hw1⟩; subst w1)
                  | (go_at_call 36; refine (HT2.out _).mono ?_; rintro e w1 ⟨rfl, hw1⟩; subst w1)
                  | (go_at_call 37; refine (HTM.out _).mono ?_; rintro e w1 ⟨rfl, hw1⟩; subst w1)
                  | (go_at_call 38; refine (HAL.out _).mono ?_; rintro e w1 ⟨rfl, hw1⟩; subst w1)
                  | (at_builtin; refine wpList_append_own _ rfl (.tmp 76) (.tmp 78) 22 rfl w.heap.size 37 i0 _ 4 40 Tryd.underlying22 hi hz0 hz1 hz2 rfl (by decide) _ _ _ rfl (World.ownsRow.alloc (World.ownsRow.alloc hown _) _) ⟨wr.heap.size + 1, 0, none⟩ 1 1 [.int .i64 5, .string ⟨(m.take n).toArray⟩, .int .i64 i, .bool true] rfl rfl (four_new2 _ _ _ _ _ _ _) (four_one _ _ _ _) ?c3 ?c4 ?c5 ?_))
                case c3 => unfold maxLen; omega
                case c4 => omega
                case c5 => have := hbel.size; simp; omega
                intro v' w' hown' hgrow hnn
                have hst := rt_step (t := ⟨5, m.take n, i, true⟩) hown hbel hown' hgrow
                clear hown' hgrow hnn
                go_wp2
                go_roundw
                case rel => exact ⟨i + m.length, _, by omega, by simp; omega, by go_num, hst.1, hst.2, HR2⟩
                case measure => simp [intOf]; omega
              | false =>
              cases k3 : (kk == 3) with
              | true =>
                rw [k1, k3] at p6
                have HR2 := hide p6
                clear p6
                go_wp2_with (first
                  | (go_at_call 35; refine (HBK.out _).mono ?_; rintro e w1 ⟨rfl, hw1⟩; subst w1)
                  | (go_at_call 36; refine (HT2.out _).mono ?_; rintro e w1 ⟨rfl, hw1⟩; subst w1)
                  | (go_at_call 37; refine (HTM.out _).mono ?_; rintro e w1 ⟨rfl, hw1⟩; subst w1)
                  | (go_at_call 38; refine (HAL.out _).mono ?_; rintro e w1 ⟨rfl, hw1⟩; subst w1)
                  | (at_builtin; refine wpList_append_own _ rfl (.tmp 76) (.tmp 78) 22 rfl w.heap.size 37 i0 _ 4 40 Tryd.underlying22 hi hz0 hz1 hz2 rfl (by decide) _ _ _ rfl (World.ownsRow.alloc (World.ownsRow.alloc hown _) _) ⟨wr.heap.size + 1, 0, none⟩ 1 1 [.int .i64 5, .string ⟨(m.take n).toArray⟩, .int .i64 i, .bool true] rfl rfl (four_new2 _ _ _ _ _ _ _) (four_one _ _ _ _) ?c3 ?c4 ?c5 ?_))
                case c3 => unfold maxLen; omega
                case c4 => omega
                case c5 => have := hbel.size; simp; omega
                intro v' w' hown' hgrow hnn
                have hst := rt_step (t := ⟨5, m.take n, i, true⟩) hown hbel hown' hgrow
                clear hown' hgrow hnn
                go_wp2
                go_roundw
                case rel => exact ⟨i + m.length, _, by omega, by simp; omega, by go_num, hst.1, hst.2, HR2⟩
                case measure => simp [intOf]; omega
              | false =>
                rw [k1, k3] at p6
                have HR2 := hide p6
                clear p6
                go_wp2_with (first
                  | (go_at_call 35; refine (HBK.out _).mono ?_; rintro e w1 ⟨rfl, hw1⟩; subst w1)
                  | (go_at_call 36; refine (HT2.out _).mono ?_; rintro e w1 ⟨rfl, hw1⟩; subst w1)
                  | (go_at_call 37; refine (HTM.out _).mono ?_; rintro e w1 ⟨rfl, hw1⟩; subst w1)
                  | (go_at_call 38; refine (HAL.out _).mono ?_; rintro e w1 ⟨rfl, hw1⟩; subst w1)
                  | (at_builtin; refine wpList_append_own _ rfl (.tmp 76) (.tmp 78) 22 rfl w.heap.size 37 i0 _ 4 40 Tryd.underlying22 hi hz0 hz1 hz2 rfl (by decide) _ _ _ rfl (World.ownsRow.alloc (World.ownsRow.alloc hown _) _) ⟨wr.heap.size + 1, 0, none⟩ 1 1 [.int .i64 5, .string ⟨(m.take n).toArray⟩, .int .i64 i, .bool false] rfl rfl (four_new2 _ _ _ _ _ _ _) (four_one _ _ _ _) ?c3 ?c4 ?c5 ?_))
                case c3 => unfold maxLen; omega
                case c4 => omega
                case c5 => have := hbel.size; simp; omega
                intro v' w' hown' hgrow hnn
                have hst := rt_step (t := ⟨5, m.take n, i, false⟩) hown hbel hown' hgrow
                clear hown' hgrow hnn
                go_wp2
                go_roundw
                case rel => exact ⟨i + m.length, _, by omega, by simp; omega, by go_num, hst.1, hst.2, HR2⟩
                case measure => simp [intOf]; omega
          · have hkb : (kd == 5) = false := by simpa using hk
            rw [if_neg hk, hkb] at p4
            have HR2 := hide p4
            have HT2 : Hid (∀ W, Calls Tryd.prog 36 #[.string s, .int .i64 i] W fun e w' => e = .returned (.tuple #[.int .i64 kd, .int .i64 ((i : Int) + (n : Int))]) ∧ w' = W) := by
              intro W; have := HTK.out W; simpa [Sc.rkOf, Sc.reOf, hk] using this
            have htc : (⟨kd, m.take n, i, false⟩ : Sc.Tok).cells = [.int .i64 kd, .string (s.extract i (i + n)), .int .i64 i, .bool false] := by
              rw [← take_line q1 p2]; exact tok_cells s i n kd i false
            have HTC := hide htc
            clear htc HTK hrt q1 q2 q3 q4 q6 p3 p4 p5 HR hm hk
            go_wp2_with (first
              | (go_at_call 35; refine (HBK.out _).mono ?_; rintro e w1 ⟨rfl, hw1⟩; subst w1)
              | (go_at_call 36; refine (HT2.out _).mono ?_; rintro e w1 ⟨rfl, hw1⟩; subst w1)
              | (at_builtin; refine wpList_append_own _ rfl (.tmp 76) (.tmp 78) 22 rfl w.heap.size 37 i0 _ 4 40 Tryd.underlying22 hi hz0 hz1 hz2 rfl (by decide) _ _ _ rfl (World.ownsRow.alloc (World.ownsRow.alloc hown _) _) ⟨wr.heap.size + 1, 0, none⟩ 1 1 [.int .i64 kd, .string (s.extract i (i + n)), .int .i64 i, .bool false] rfl rfl (four_new2 _ _ _ _ _ _ _) (four_one _ _ _ _) ?c3 ?c4 ?c5 ?_))
            case c3 => unfold maxLen; omega
            case c4 => omega
            case c5 => have := hbel.size; simp; omega
            intro v' w' hown' hgrow hnn
            rw [← HTC.out] at hown'
            have hst := rt_step hown hbel hown' hgrow
            clear hown' hgrow hnn
            go_wp2
            go_roundw
            case rel => exact ⟨i + n, _, by omega, by simp; omega, by go_num, hst.1, hst.2, HR2⟩
            case measure => simp [intOf]; omega
        · have hTR := q6.1 her
          simp only [Prod.mk.injEq] at hTR
          obtain ⟨rfl, rfl, rfl⟩ := hTR
          have hee := Sc.readTok_err s[pl0] t
          rw [hrt] at hee
          have hee := hee her
          simp only at hee
          have HT2 : Hid (∀ W, Calls Tryd.prog 36 #[.string s, .int .i64 pl0] W fun e w' => e = .returned (.tuple #[.int .i64 1, .int .i64 (-1)]) ∧ w' = W) := by
            intro W; have := HTK.out W; simpa [Sc.rkOf, Sc.reOf, her] using this
          clear HTK hrt q1 q2 q3 q4 q6 HR
          by_cases h34 : s[pl0] = 34
          · have hq : ((s[pl0].toNat : Int) == 34) = true := by rw [h34]; rfl
            obtain rfl := hee.1 h34
            clear hee h34 HTR HST her
            go_wp2_with (first
              | (go_at_call 35; refine (HBK.out _).mono ?_; rintro e w1 ⟨rfl, hw1⟩; subst w1)
              | (go_at_call 36; refine (HT2.out _).mono ?_; rintro e w1 ⟨rfl, hw1⟩; subst w1))
            go_ret3
            exact ⟨.slice none 0 0, rfl, Owns.nil _ _, hbel⟩
          · have hq : ((s[pl0].toNat : Int) == 34) = false := by rw [← u8b (d := 34)]; simpa using h34
            obtain rfl := hee.2 h34
            clear hee h34 HTR HST her
            go_wp2_with (first
              | (go_at_call 35; refine (HBK.out _).mono ?_; rintro e w1 ⟨rfl, hw1⟩; subst w1)
              | (go_at_call 36; refine (HT2.out _).mono ?_; rintro e w1 ⟨rfl, hw1⟩; subst w1))
            go_ret3
            exact ⟨.slice none 0 0, rfl, Owns.nil _ _, hbel⟩
    · have hTR := HR.out.done (by omega)
      simp only [Prod.mk.injEq] at hTR
      obtain ⟨rfl, rfl, rfl⟩ := hTR
      clear HTR HST HR
      go_wp2
      go_ret3
      exact ⟨_, rfl, hown, hbel⟩
end Go.Proofs.YtoieklacpkahbaaDoor
