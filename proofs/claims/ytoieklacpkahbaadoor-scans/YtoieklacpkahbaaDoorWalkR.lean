/- Walks: the second reader's small functions. -/
import Derived.Test.YtoieklacpkahbaaDoorPlainT
import Derived.Test.YtoieklacpkahbaaDoorWalkH
namespace Go.Proofs.YtoieklacpkahbaaDoor
open Go.RowKit

set_option maxHeartbeats 400000 in
theorem rblank_any (c : UInt8) (w : World) :
    Calls Tryd.prog 35 #[.int .u8 (c.toNat : Int)] w fun e w' => e = .returned (.bool (Sc.bl3 c)) ∧ w' = w := by
  have HB := hide (bl3_int c)
  generalize (c.toNat : Int) = x at HB ⊢
  cases h1 : (x == 32) with
  | true =>
    rw [h1] at HB
    go_enter Tryd.func35, Tryd.ntmps35
    go_wp2
    go_ret
    exact ⟨ret_bool HB.out.symm, rfl⟩
  | false =>
  cases h2 : (x == 9) with
  | true =>
    rw [h1, h2] at HB
    go_enter Tryd.func35, Tryd.ntmps35
    go_wp2
    go_ret
    exact ⟨ret_bool HB.out.symm, rfl⟩
  | false =>
    rw [h1, h2] at HB
    go_enter Tryd.func35, Tryd.ntmps35
    go_wp2
    go_ret
    exact ⟨ret_bool HB.out.symm, rfl⟩

theorem at_any (s : ByteArray) (j : Nat) (w : World) (_hs : s.size ≤ 4096) (_hj : j ≤ 5000) :
    Calls Tryd.prog 49 #[.string s, .int .i64 j] w fun e w' => e = .returned (.int .u8 ((s.data.toList.getD j 0).toNat : Int)) ∧ w' = w := by
  have hz := Sc.lsize s
  by_cases h : j < s.size
  · have he : s.data.toList.getD j 0 = s[j] := by rw [List.getD_eq_getElem?_getD, List.getElem?_eq_getElem (by omega)]; rfl
    rw [he]
    clear he
    go_enter Tryd.func49, Tryd.ntmps49
    go_wp2
    go_ret
    exact ⟨rfl, rfl⟩
  · have he : s.data.toList.getD j 0 = 0 := by rw [List.getD_eq_getElem?_getD, List.getElem?_eq_none (by omega)]; rfl
    rw [he]
    clear he
    go_enter Tryd.func49, Tryd.ntmps49
    go_wp2
    go_ret
    exact ⟨rfl, rfl⟩

theorem u8b {c : UInt8} {d : UInt8} {n : Int} (hn : n = d.toNat := by rfl) : (c == d) = ((c.toNat : Int) == n) := by
  subst hn
  by_cases h : c = d
  · subst h; simp
  · have h1 : ¬ ((c.toNat : Int) = (d.toNat : Int)) := fun e => h (UInt8.toNat_inj.1 (by omega))
    rw [beq_eq_false_iff_ne.2 h, beq_eq_false_iff_ne.2 h1]
theorem u8n {c : UInt8} {d : UInt8} {n : Int} (hn : n = d.toNat := by rfl) : (!(c == d)) = ((c.toNat : Int) != n) := by
  rw [u8b hn]; rfl

set_option maxHeartbeats 400000 in
theorem eol_any (s : ByteArray) (a : Nat) (w : World) (hs : s.size ≤ 4096) (h1 : a ≤ s.size) :
    Calls Tryd.prog 50 #[.string s, .int .i64 a] w fun e w' => e = .returned (.int .i64 (Sc.runN Sc.inLn s.data.toList a : Nat)) ∧ w' = w := by
  have hz := Sc.lsize s
  go_enter Tryd.func50, Tryd.ntmps50
  go_wp2
  go_loop [1] (fun i => ∃ k : Nat, k ≤ s.size ∧ i = .int .i64 k ∧ Hid (Sc.runN Sc.inLn s.data.toList a = Sc.runN Sc.inLn s.data.toList k)) (fun i => s.size - (intOf i).toNat)
  case atStart => exact ⟨a, by omega, rfl, rfl⟩
  case round =>
    obtain ⟨k, hk, rfl, HK⟩ := hrel
    by_cases hlt : k < s.size
    · cases hb : Sc.inLn s[k] with
      | true =>
        have hq : ((s[k].toNat : Int) != 10) = true := by rw [← u8n (d := 10)]; exact hb
        have HS := hide (HK.out.trans (Sc.runN_hit _ _ k (by omega) hb)); clear hb HK
        go_wp2
        go_round
        case rel => exact ⟨k + 1, by omega, by go_num, HS⟩
        case measure => simp [intOf]; omega
      | false =>
        have hq : ((s[k].toNat : Int) != 10) = false := by rw [← u8n (d := 10)]; exact hb
        have HS := hide (HK.out.trans (Sc.runN_miss _ _ k (by omega) hb)); clear hb HK
        go_wp2
        go_ret
        exact ⟨ret_int (by rw [HS.out]), rfl⟩
    · go_wp2
      go_ret
      exact ⟨ret_int (by rw [HK.out, Sc.runN_end _ _ _ (by omega)]), rfl⟩

set_option maxHeartbeats 1000000 in
theorem ends_any (c : UInt8) (w : World) :
    Calls Tryd.prog 53 #[.int .u8 (c.toNat : Int)] w fun e w' => e = .returned (.bool (Sc.endB c)) ∧ w' = w := by
  have hbk := rblank_any c
  have HBK := hide hbk; clear hbk
  generalize hX : Sc.endB c = X
  have hX2 : (Sc.bl3 c || ((c.toNat : Int) == 40) || ((c.toNat : Int) == 41) || ((c.toNat : Int) == 39) || ((c.toNat : Int) == 96) || ((c.toNat : Int) == 44) || ((c.toNat : Int) == 34) || ((c.toNat : Int) == 59)) = X := by
    rw [← hX]; unfold Sc.endB
    rw [u8b (c := c) (d := 40), u8b (c := c) (d := 41), u8b (c := c) (d := 39), u8b (c := c) (d := 96), u8b (c := c) (d := 44), u8b (c := c) (d := 34), u8b (c := c) (d := 59)]
    rfl
  clear hX
  generalize Sc.bl3 c = B at HBK hX2
  generalize (c.toNat : Int) = x at HBK hX2 ⊢
  have HX := hide hX2; clear hX2
  go_enter Tryd.func53, Tryd.ntmps53
  go_wp2_with (go_at_call 35; refine (HBK.out _).mono ?_; rintro e w1 ⟨rfl, hw1⟩; subst w1)
  all_goals
    go_ret
    exact ⟨ret_bool (by rw [← HX.out]; simp [*]), rfl⟩

set_option maxHeartbeats 400000 in
theorem quoted_any (s : ByteArray) (a : Nat) (w : World) (hs : s.size ≤ 4096) (h1 : a < s.size) :
    Calls Tryd.prog 52 #[.string s, .int .i64 a] w fun e w' => e = .returned (.int .i64 (Sc.quoGo (s.data.toList.drop (a + 1)) (a + 1) false)) ∧ w' = w := by
  have hz := Sc.lsize s
  generalize hX : Sc.quoGo (s.data.toList.drop (a + 1)) (a + 1) false = X
  have HX := hide hX; clear hX
  go_enter Tryd.func52, Tryd.ntmps52
  go_wp2
  go_loop [5, 6] (fun e i => ∃ (k : Nat) (b : Bool), k ≤ s.size ∧ i = .int .i64 k ∧ e = .bool b ∧ Hid (X = Sc.quoGo (s.data.toList.drop k) k b)) (fun _ i => s.size - (intOf i).toNat)
  case atStart => exact ⟨a + 1, false, by omega, by go_num, rfl, HX.out.symm⟩
  case round =>
    obtain ⟨k, b, hk, rfl, rfl, HK⟩ := hrel
    by_cases hlt : k < s.size
    · have hd : s.data.toList.drop k = s[k] :: s.data.toList.drop (k + 1) := List.drop_eq_getElem_cons (by omega)
      have HD := hide hd; clear hd
      by_cases h10 : s[k] = 10
      · have hq : ((s[k].toNat : Int) != 10) = false := by rw [h10]; rfl
        have HE : Hid (X = -1) := by rw [HK.out, HD.out, Sc.quoGo, if_pos h10]; exact hide rfl
        clear h10
        go_wp2
        go_ret
        exact ⟨ret_int HE.out.symm, rfl⟩
      have hq : ((s[k].toNat : Int) != 10) = true := by rw [← u8n (d := 10)]; simpa using h10
      cases b with
      | true =>
        have HE : Hid (X = Sc.quoGo (s.data.toList.drop (k + 1)) (k + 1) false) := by rw [HK.out, HD.out, Sc.quoGo, if_neg h10, if_pos rfl]; exact hide rfl
        clear h10 HK HD
        go_wp2
        go_round
        case rel => exact ⟨k + 1, false, by omega, by go_num, rfl, HE⟩
        case measure => simp [intOf]; omega
      | false =>
        by_cases h92 : s[k] = 92
        · have hq2 : ((s[k].toNat : Int) == 92) = true := by rw [h92]; rfl
          have HE : Hid (X = Sc.quoGo (s.data.toList.drop (k + 1)) (k + 1) true) := by rw [HK.out, HD.out, Sc.quoGo, if_neg h10, if_neg (by simp), if_pos h92]; exact hide rfl
          clear h10 HK HD h92
          go_wp2
          go_round
          case rel => exact ⟨k + 1, true, by omega, by go_num, rfl, HE⟩
          case measure => simp [intOf]; omega
        have hq2 : ((s[k].toNat : Int) == 92) = false := by rw [← u8b (d := 92)]; simpa using h92
        by_cases h34 : s[k] = 34
        · have hq3 : ((s[k].toNat : Int) == 34) = true := by rw [h34]; rfl
          have HE : Hid (X = (k : Int) + 1) := by rw [HK.out, HD.out, Sc.quoGo, if_neg h10, if_neg (by simp), if_neg h92, if_pos h34]; exact hide rfl
          clear h10 HK HD h92 h34
          go_wp2
          go_ret
          exact ⟨ret_int HE.out.symm, rfl⟩
        have hq3 : ((s[k].toNat : Int) == 34) = false := by rw [← u8b (d := 34)]; simpa using h34
        have HE : Hid (X = Sc.quoGo (s.data.toList.drop (k + 1)) (k + 1) false) := by rw [HK.out, HD.out, Sc.quoGo, if_neg h10, if_neg (by simp), if_neg h92, if_neg h34]; exact hide rfl
        clear h10 HK HD h92 h34
        go_wp2
        go_round
        case rel => exact ⟨k + 1, false, by omega, by go_num, rfl, HE⟩
        case measure => simp [intOf]; omega
    · have HE : Hid (X = -1) := by rw [HK.out, List.drop_eq_nil_of_le (by omega)]; exact hide rfl
      go_wp2
      go_ret
      exact ⟨ret_int HE.out.symm, rfl⟩

/-- block, within a line's rest of length e. -/
def bkAt (l : List UInt8) (e k : Nat) (d : Int) : Int := Sc.bkGo ((l.take e).drop k) k d
theorem bkAt_step (s : ByteArray) (e k : Nat) (d : Int) (he : e ≤ s.size) (h : k + 2 ≤ e) : bkAt s.data.toList e k d =
    if s[k] = 35 ∧ s[k + 1] = 124 then bkAt s.data.toList e (k + 2) (d + 1)
    else if s[k] = 124 ∧ s[k + 1] = 35 then (if d - 1 = 0 then (k : Int) + 2 else bkAt s.data.toList e (k + 2) (d - 1))
    else bkAt s.data.toList e (k + 1) d := by
  have hz := Sc.lsize s
  unfold bkAt
  have hl : (s.data.toList.take e).length = e := by rw [List.length_take]; omega
  have e0 : (s.data.toList.take e)[k]'(by omega) = s[k] := by rw [List.getElem_take]; rfl
  have e1 : (s.data.toList.take e)[k + 1]'(by omega) = s[k + 1] := by rw [List.getElem_take]; rfl
  rw [List.drop_eq_getElem_cons (i := k) (by omega), List.drop_eq_getElem_cons (i := k + 1) (by omega), Sc.bkGo, e0, e1]
theorem bkAt_end (s : ByteArray) (e k : Nat) (d : Int) (he : e ≤ s.size) (h : e < k + 2) : bkAt s.data.toList e k d = -1 := by
  have hz := Sc.lsize s
  unfold bkAt
  match hd : (s.data.toList.take e).drop k with
  | [] => rfl
  | [_] => rfl
  | _ :: _ :: _ => have := congrArg List.length hd; rw [List.length_drop, List.length_take] at this; simp at this; omega

set_option maxHeartbeats 800000 in
theorem block_any (s : ByteArray) (a : Nat) (w : World) (hs : s.size ≤ 4096) (h1 : a ≤ s.size) (en : Nat) (HEN : Hid (Sc.runN Sc.inLn s.data.toList a = en)) (hen : en ≤ s.size) :
    Calls Tryd.prog 51 #[.string s, .int .i64 a] w fun e w' => e = .returned (.int .i64 (bkAt s.data.toList en (a + 2) 1)) ∧ w' = w := by
  have hz := Sc.lsize s
  have HEO : Hid (∀ W, Calls Tryd.prog 50 #[.string s, .int .i64 a] W fun e w' => e = .returned (.int .i64 (en : Nat)) ∧ w' = W) := by
    intro W; have := eol_any s a W hs h1; rw [HEN.out] at this; exact this
  generalize hX : bkAt s.data.toList en (a + 2) 1 = X
  have HX := hide hX; clear hX
  go_enter Tryd.func51, Tryd.ntmps51
  go_wp2_with (go_at_call 50; refine (HEO.out _).mono ?_; rintro e w1 ⟨rfl, hw1⟩; subst w1)
  go_loop [6, 7] (fun o i => ∃ (k : Nat) (d : Int), k ≤ s.size + 2 ∧ -5000 ≤ d ∧ d ≤ k ∧ 1 ≤ d ∧ i = .int .i64 k ∧ o = .int .i64 d ∧ Hid (X = bkAt s.data.toList en k d)) (fun _ i => s.size + 2 - (intOf i).toNat)
  case atStart => exact ⟨a + 2, 1, by omega, by omega, by omega, by omega, by go_num, rfl, HX.out.symm⟩
  case round =>
    obtain ⟨k, d, hk, hd0, hd1, hd2, rfl, rfl, HK⟩ := hrel
    by_cases hlt : k + 2 ≤ en
    · have HB := hide (bkAt_step s en k d hen hlt)
      have b0 : k < s.size := by omega
      have b1 : k + 1 < s.size := by omega
      by_cases p35 : s[k] = 35
      · have q35 : ((s[k].toNat : Int) == 35) = true := by rw [p35]; rfl
        have q124 : ((s[k].toNat : Int) == 124) = false := by rw [p35]; rfl
        by_cases r124 : s[k + 1] = 124
        · have t124 : ((s[k + 1].toNat : Int) == 124) = true := by rw [r124]; rfl
          have HE : Hid (X = bkAt s.data.toList en (k + 2) (d + 1)) := by rw [HK.out, HB.out, if_pos ⟨p35, r124⟩]; exact hide rfl
          clear HK HB p35 r124
          go_wp2
          go_round
          case rel => exact ⟨k + 2, d + 1, by omega, by omega, by omega, by omega, by go_num, rfl, HE⟩
          case measure => simp [intOf]; omega
        · have t124 : ((s[k + 1].toNat : Int) == 124) = false := by rw [← u8b (d := 124)]; simpa using r124
          have HE : Hid (X = bkAt s.data.toList en (k + 1) d) := by rw [HK.out, HB.out, if_neg (fun h => r124 h.2), if_neg (fun h => by rw [p35] at h; exact absurd h.1 (by decide))]; exact hide rfl
          clear HK HB p35 r124
          go_wp2
          go_round
          case rel => exact ⟨k + 1, d, by omega, by omega, by omega, by omega, by go_num, rfl, HE⟩
          case measure => simp [intOf]; omega
      · have q35 : ((s[k].toNat : Int) == 35) = false := by rw [← u8b (d := 35)]; simpa using p35
        by_cases p124 : s[k] = 124
        · have q124 : ((s[k].toNat : Int) == 124) = true := by rw [p124]; rfl
          by_cases r35 : s[k + 1] = 35
          · have t35 : ((s[k + 1].toNat : Int) == 35) = true := by rw [r35]; rfl
            by_cases hd : d - 1 = 0
            · have hdb : (d - 1 == 0) = true := by simpa using hd
              have HE : Hid (X = (k : Int) + 2) := by rw [HK.out, HB.out, if_neg (fun h => p35 h.1), if_pos ⟨p124, r35⟩, if_pos hd]; exact hide rfl
              clear HK HB p35 p124 r35 hd
              go_wp2
              go_ret
              exact ⟨ret_int HE.out.symm, rfl⟩
            · have hdb : (d - 1 == 0) = false := by simpa using hd
              have HE : Hid (X = bkAt s.data.toList en (k + 2) (d - 1)) := by rw [HK.out, HB.out, if_neg (fun h => p35 h.1), if_pos ⟨p124, r35⟩, if_neg hd]; exact hide rfl
              clear HK HB p35 p124 r35
              go_wp2
              go_round
              case rel => exact ⟨k + 2, d - 1, by omega, by omega, by omega, by omega, by go_num, rfl, HE⟩
              case measure => simp [intOf]; omega
          · have t35 : ((s[k + 1].toNat : Int) == 35) = false := by rw [← u8b (d := 35)]; simpa using r35
            have HE : Hid (X = bkAt s.data.toList en (k + 1) d) := by rw [HK.out, HB.out, if_neg (fun h => p35 h.1), if_neg (fun h => r35 h.2)]; exact hide rfl
            clear HK HB p35 p124 r35
            go_wp2
            go_round
            case rel => exact ⟨k + 1, d, by omega, by omega, by omega, by omega, by go_num, rfl, HE⟩
            case measure => simp [intOf]; omega
        · have q124 : ((s[k].toNat : Int) == 124) = false := by rw [← u8b (d := 124)]; simpa using p124
          have HE : Hid (X = bkAt s.data.toList en (k + 1) d) := by rw [HK.out, HB.out, if_neg (fun h => p35 h.1), if_neg (fun h => p124 h.1)]; exact hide rfl
          clear HK HB p35 p124
          go_wp2
          go_round
          case rel => exact ⟨k + 1, d, by omega, by omega, by omega, by omega, by go_num, rfl, HE⟩
          case measure => simp [intOf]; omega
    · have HE : Hid (X = -1) := by rw [HK.out, bkAt_end s en k d hen (by omega)]; exact hide rfl
      go_wp2
      go_ret
      exact ⟨ret_int HE.out.symm, rfl⟩

set_option maxHeartbeats 400000 in
theorem alone_any (s : ByteArray) (a : Nat) (w : World) (hs : s.size ≤ 4096) (h1 : a ≤ s.size) :
    Calls Tryd.prog 38 #[.string s, .int .i64 a] w fun e w' => e = .returned (.bool (Sc.alB s.data.toList a)) ∧ w' = w := by
  have hz := Sc.lsize s
  generalize hX : Sc.alB s.data.toList a = X
  have HX := hide hX; clear hX
  go_enter Tryd.func38, Tryd.ntmps38
  go_wp2
  go_loop [1] (fun i => ∃ k : Nat, k ≤ s.size ∧ i = .int .i64 k ∧ Hid (X = Sc.alB s.data.toList k)) (fun i => (intOf i).toNat)
  case atStart => exact ⟨a, by omega, rfl, HX.out.symm⟩
  case round =>
    obtain ⟨k, hk, rfl, HK⟩ := hrel
    cases k with
    | zero =>
      go_wp2
      go_ret
      exact ⟨ret_bool HK.out.symm, rfl⟩
    | succ j =>
      have hg : s.data.toList.getD j 0 = s[j] := by rw [List.getD_eq_getElem?_getD, List.getElem?_eq_getElem (by omega)]; rfl
      have HS : Hid (X = if s[j] = 10 then true else if Sc.bl3 s[j] then Sc.alB s.data.toList j else false) := by rw [HK.out, Sc.alB, hg]; exact hide rfl
      clear HK hg
      by_cases h10 : s[j] = 10
      · have hq : ((s[j].toNat : Int) != 10) = false := by rw [h10]; rfl
        have HE : Hid (X = true) := by rw [HS.out, if_pos h10]; exact hide rfl
        clear h10 HS
        go_wp2
        go_ret
        exact ⟨ret_bool HE.out.symm, rfl⟩
      have hq : ((s[j].toNat : Int) != 10) = true := by rw [← u8n (d := 10)]; simpa using h10
      have hbk := rblank_any s[j]
      cases hb : Sc.bl3 s[j] with
      | true =>
        have HE : Hid (X = Sc.alB s.data.toList j) := by rw [HS.out, if_neg h10, hb]; exact hide rfl
        rw [hb] at hbk
        have HBK := hide hbk
        clear h10 HS hbk hb
        go_wp2_with (go_at_call 35; refine (HBK.out _).mono ?_; rintro e w1 ⟨rfl, hw1⟩; subst w1)
        go_round
        case rel => exact ⟨j, by omega, by go_num, HE⟩
        case measure => simp [intOf]
      | false =>
        have HE : Hid (X = false) := by rw [HS.out, if_neg h10, hb]; exact hide rfl
        rw [hb] at hbk
        have HBK := hide hbk
        clear h10 HS hbk hb
        go_wp2_with (go_at_call 35; refine (HBK.out _).mono ?_; rintro e w1 ⟨rfl, hw1⟩; subst w1)
        go_ret
        exact ⟨ret_bool HE.out.symm, rfl⟩

theorem contains3 (c : UInt8) : ([32, 9, 10] : List UInt8).contains c = Sc.bl3 c := by
  unfold Sc.bl3
  simp only [List.contains_cons, List.contains_nil, Bool.or_false, Bool.or_assoc]
theorem str_ext {l : List UInt8} {s : ByteArray} (h : s.data.toList = l) : Ending.returned (.string s) = .returned (.string ⟨l.toArray⟩) := by
  rw [← h, Lib.mk_data]

set_option maxHeartbeats 400000 in
theorem trimmed_any (s : ByteArray) (w : World) (hs : s.size ≤ 4096) :
    Calls Tryd.prog 37 #[.string s] w fun e w' => e = .returned (.string ⟨(Lib.trimRightS s.data.toList [32, 9, 10]).toArray⟩) ∧ w' = w := by
  have hz := Sc.lsize s
  generalize hX : Lib.trimRightS s.data.toList [32, 9, 10] = X
  have HX := hide hX; clear hX
  go_enter Tryd.func37, Tryd.ntmps37
  go_wp2
  go_loop [3] (fun i => ∃ k : Nat, k ≤ s.size ∧ i = .int .i64 k ∧ Hid (∀ (j : Nat) b, k ≤ j → s.data.toList[j]? = some b → ([32, 9, 10] : List UInt8).contains b = true)) (fun i => (intOf i).toNat)
  case atStart => exact ⟨s.size, by omega, rfl, hide (fun j b hj hb => by rw [List.getElem?_eq_none (by omega)] at hb; cases hb)⟩
  case round =>
    obtain ⟨k, hk, rfl, HK⟩ := hrel
    cases k with
    | zero =>
      have HE : Hid (X = []) := by rw [← HX.out, Lib.trimRightS_take _ _ 0 (by omega) HK.out (fun b h => by omega)]; exact hide rfl
      go_wp2
      go_ret
      exact ⟨by rw [HE.out]; rfl, rfl⟩
    | succ n =>
      have hbk := rblank_any s[n]
      have hg : s.data.toList[n]? = some s[n] := by rw [List.getElem?_eq_getElem (by omega)]; rfl
      cases hb : Sc.bl3 s[n] with
      | true =>
        have HE : Hid (∀ (j : Nat) b, n ≤ j → s.data.toList[j]? = some b → ([32, 9, 10] : List UInt8).contains b = true) := by
          intro j b hj hb2
          by_cases e : j = n
          · subst e; rw [hg] at hb2; cases hb2; rw [contains3]; exact hb
          · exact HK.out j b (by omega) hb2
        rw [hb] at hbk
        have HBK := hide hbk
        clear hbk hb hg HK
        go_wp2_with (go_at_call 35; refine (HBK.out _).mono ?_; rintro e w1 ⟨rfl, hw1⟩; subst w1)
        go_round
        case rel => exact ⟨n, by omega, by go_num, HE⟩
        case measure => simp [intOf]
      | false =>
        have HE : Hid (X = s.data.toList.take (n + 1)) := by
          rw [← HX.out]
          exact Lib.trimRightS_take _ _ (n + 1) (by omega) HK.out (fun b _ h2 => by rw [Nat.add_sub_cancel, hg] at h2; cases h2; rw [contains3]; exact hb)
        rw [hb] at hbk
        have HBK := hide hbk
        clear hbk hb hg HK
        go_wp2_with (go_at_call 35; refine (HBK.out _).mono ?_; rintro e w1 ⟨rfl, hw1⟩; subst w1)
        go_ret
        exact ⟨by rw [HE.out]; exact str_ext (by rw [Lib.extract_data]; simp), rfl⟩
end Go.Proofs.YtoieklacpkahbaaDoor
