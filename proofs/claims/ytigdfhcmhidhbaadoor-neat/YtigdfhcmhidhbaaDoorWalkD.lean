/- Walks: readLine. -/
import Derived.Test.YtigdfhcmhidhbaaDoorWalkC
import Derived.Test.YtigdfhcmhidhbaaDoorOwn
namespace Go.Proofs.YtigdfhcmhidhbaaDoor
open Go.RowKit

theorem infoTok : (Tryd.prog.info? 37).map (fun i => (i.zero, i.size, i.bytes)) = some (some (.agg #[.int .i64 0, .string ⟨#[]⟩, .int .i64 0, .bool false]), 4, 40) := by kernel_rfl

theorem ascii_drop {l : List UInt8} (h : Sc.Ascii l) (a : Nat) : Sc.Ascii (l.drop a) := fun j b hj => h (a + j) b (by rw [List.getElem?_drop] at hj; exact hj)

theorem readToken_at (s : ByteArray) (a : Nat) (w : World) (hs : s.size ≤ 4096) (h1 : a < s.size) (ha : Sc.Ascii s.data.toList) (kd : Int) (n : Nat) (er : Int) (HR : Hid (Sc.readTok (s.data.toList.drop a) = (kd, n, er))) :
    Calls Tryd.prog 56 #[.string (s.extract a s.size)] w fun e w' => e = .returned (.tuple #[.int .i64 kd, .int .i64 n, .int .i64 er]) ∧ Below w.heap.size w w' := by
  have hl := Lib.extract_to_end s a
  have hz : (s.extract a s.size).size = s.size - a := by rw [← Sc.lsize, hl, List.length_drop, Sc.lsize]
  have h := readToken_any (s.extract a s.size) w (by omega) (by omega) (by rw [hl]; exact ascii_drop ha a)
  rw [hl, HR.out] at h
  exact h

theorem tok_ok {l : List UInt8} {a n : Nat} {kd : Int} (h : a < l.length) (hb : Sc.isBl l[a] = false) (hR : Sc.readTok (l.drop a) = (kd, n, 0)) : 1 ≤ n ∧ a + n ≤ l.length := by
  rw [List.drop_eq_getElem_cons h] at hR
  have := Sc.readTok_ok l[a] (l.drop (a + 1)) hb (by rw [hR])
  rw [hR, List.length_cons, List.length_drop] at this
  simp only at this
  omega

theorem four_new (w : World) (e : TypeId) (x0 x1 x2 x3 : Value) : ∀ j u, [x0, x1, x2, x3][j]? = some u → (w.alloc (.cells #[x0, x1, x2, x3] e)).cell? ((⟨w.heap.size, 0, none⟩ : Addr).add j) = some u := by
  intro j u hj
  match j, hj with
  | 0, hj => simp at hj; subst hj; simp [Addr.add]
  | 1, hj => simp at hj; subst hj; simp [Addr.add]
  | 2, hj => simp at hj; subst hj; simp [Addr.add]
  | 3, hj => simp at hj; subst hj; simp [Addr.add]
  | _ + 4, hj => simp at hj
theorem four_one (kd : Int) (t : ByteArray) (p : Int) (b : Bool) : ∀ u ∈ [Value.int .i64 kd, .string t, .int .i64 p, .bool b], u.oneCell' = true := by
  intro u hu
  simp at hu
  rcases hu with rfl | rfl | rfl | rfl <;> rfl

theorem tok_cells (s : ByteArray) (a n : Nat) (kd p : Int) (b : Bool) : (⟨kd, (s.data.toList.drop a).take n, p, b⟩ : Sc.Tok).cells = [.int .i64 kd, .string (s.extract a (a + n)), .int .i64 p, .bool b] := by
  unfold Sc.Tok.cells
  rw [Lib.extract_eq, show a + n - a = n by omega]

theorem line_step {w wr w1 w2 w' : World} {u v' : Value} {acc : List Sc.Tok} {t : Sc.Tok} {o : Obj} (hown : Owns wr w.heap.size u acc) (hbel : Below w.heap.size w wr) (hb1 : Below wr.heap.size wr w1) (hb2 : Below w1.heap.size w1 w2)
    (ho : w'.ownsRow w.heap.size 37 4 v' (acc.length + 1) (Sc.tcells acc ++ t.cells)) (hg : (w2.alloc o).grownBy w' u.ownBlock) : Owns w' w.heap.size v' (acc ++ [t]) ∧ Below w.heap.size w w' := by
  refine ⟨?_, ?_⟩
  · unfold Owns
    rw [Sc.tcells_append, List.length_append]
    simpa [Sc.tcells] using ho
  · have s1 := hbel.size
    have s2 := hb1.size
    have s3 := hb2.size
    refine (((hbel.trans (hb1.mono s1)).trans (hb2.mono (by omega))).alloc (by omega) o).grown hg (by simp; omega) fun k hk => (World.ownsRow.lt hown k hk).1

set_option maxRecDepth 20000 in
set_option maxHeartbeats 400000 in
theorem readLine_any (s : ByteArray) (w : World) (hs : s.size ≤ 4096) (ha : Sc.Ascii s.data.toList) :
    Calls Tryd.prog 41 #[.string s] w fun e w' => ∃ v, e = .returned (.tuple #[v, .int .i64 (Sc.lineRes s.data.toList).2.1, .int .i64 ((Sc.lineRes s.data.toList).2.2 : Nat)]) ∧
      Owns w' w.heap.size v (Sc.lineRes s.data.toList).1 ∧ Below w.heap.size w w' := by
  have hz := Sc.lsize s
  have HA := hide ha; clear ha
  have hk0 := Sc.skipB_le s.data.toList 0 (by omega)
  obtain ⟨i0, hi, hz0, hz1, hz2⟩ := info_parts infoTok
  generalize hL : Sc.lineRes s.data.toList = LR
  have HL := hide hL; clear hL
  go_enter Tryd.func41, Tryd.ntmps41
  go_wp2_with (go_at_call 55; refine (skip_any s 0 _ hs (by omega) (by omega)).mono ?_; rintro e w' ⟨rfl, hw0⟩; subst w')
  go_loopw [5, 6] (fun v i wr => ∃ (a f : Nat) (acc : List Sc.Tok), a ≤ s.size ∧ s.size < f + a ∧ i = .int .i64 a ∧ Owns wr w.heap.size v acc ∧ acc.length ≤ a ∧ Below w.heap.size w wr ∧
      Hid (LR = Sc.lineGo s.data.toList f a acc) ∧ Hid (∀ h : a < s.data.toList.length, Sc.isBl s.data.toList[a] = false)) (fun _ i _ => s.size - (intOf i).toNat)
  case atStart => exact ⟨Sc.skipB s.data.toList 0, s.data.toList.length + 1, [], by omega, by omega, rfl, Owns.nil _ _, by simp, Below.refl _ _, HL.out.symm, fun h => Sc.skipB_at _ _ h⟩
  case round =>
    obtain ⟨a, f, acc, h1, h2, rfl, hown, hal, hbel, HK, HB⟩ := hrel
    by_cases hlt : a < s.size
    · obtain ⟨⟨kd, n, er⟩, hR⟩ : ∃ R, Sc.readTok (s.data.toList.drop a) = R := ⟨_, rfl⟩
      have HR := hide hR; clear hR
      by_cases her : er = 0
      · subst her
        have hn := tok_ok (by omega) (HB.out (by omega)) HR.out
        have hsz : (s.extract a (a + n)).size ≤ 4096 := by rw [← Sc.lsize, Lib.extract_data, List.length_take, List.length_drop]; omega
        have hsk := Sc.skipB_le s.data.toList (a + n) (by omega)
        cases hkd : (kd == 5) with
        | true =>
          have htc := tok_cells s a n kd a (Sc.endsEl acc)
          have HT := hide htc; clear htc
          have HG : Hid (LR = Sc.lineGo s.data.toList (f - 1) (Sc.skipB s.data.toList (a + n)) (acc ++ [⟨kd, (s.data.toList.drop a).take n, a, Sc.endsEl acc⟩])) := by
            rw [HK.out, show f = (f - 1) + 1 by omega, Sc.lineGo_on _ _ _ _ (by omega) (by rw [HR.out])]
            simp only [HR.out, hkd, Bool.true_and, Nat.add_sub_cancel]
            exact hide trivial
          go_wp2_with (first
            | (go_at_call 56; refine (readToken_at s a _ hs hlt HA.out kd n 0 HR).mono ?_; rintro e w1 ⟨rfl, hb1⟩; have hown1 := hown.below hb1)
            | (go_at_call 57; refine (clone_any (s.extract a (a + n)) _ hsz).mono ?_; rintro e w2 ⟨rfl, hb2⟩; have hown2 := hown1.below hb2)
            | (go_at_call 58; refine (endsElement_any _ acc w.heap.size _ hown2 (by omega)).mono ?_; rintro e w3 ⟨rfl, hw3⟩; subst w3)
            | (at_builtin; refine wpList_append_own _ rfl (.tmp 28) (.tmp 45) 22 rfl w.heap.size 37 i0 _ 4 40 Tryd.underlying22 hi hz0 hz1 hz2 rfl (by decide) _ _ _ rfl (World.ownsRow.alloc hown2 _) ⟨w2.heap.size, 0, none⟩ 1 1 [.int .i64 kd, .string (s.extract a (a + n)), .int .i64 a, .bool (Sc.endsEl acc)] rfl rfl (four_new _ _ _ _ _ _) (four_one _ _ _ _) ?c3 ?c4 ?c5 ?_))
          case c3 => unfold maxLen; omega
          case c4 => omega
          case c5 => have := hbel.size; have := hb1.size; have := hb2.size; simp; omega
          intro v' w' hown' hgrow hnn
          rw [← HT.out] at hown'
          have hst := line_step hown hbel hb1 hb2 hown' hgrow
          clear hown' hgrow hown2 hown1 hown hnn
          go_wp2_with (go_at_call 55; refine (skip_any s _ _ hs (by omega) (by omega)).mono ?_; rintro e w3 ⟨rfl, hw3⟩; subst w3)
          have e1 : ((a : Int) + (n : Int)).toNat = a + n := by omega
          go_roundw
          case rel => exact ⟨Sc.skipB s.data.toList (a + n), f - 1, _, by omega, by omega, by rw [e1], hst.1, by simp; omega, hst.2, HG, fun h => Sc.skipB_at _ _ h⟩
          case measure => rw [e1]; simp [intOf]; omega
        | false =>
          have htc := tok_cells s a n kd a false
          have HT := hide htc; clear htc
          have HG : Hid (LR = Sc.lineGo s.data.toList (f - 1) (Sc.skipB s.data.toList (a + n)) (acc ++ [⟨kd, (s.data.toList.drop a).take n, a, false⟩])) := by
            rw [HK.out, show f = (f - 1) + 1 by omega, Sc.lineGo_on _ _ _ _ (by omega) (by rw [HR.out])]
            simp only [HR.out, hkd, Bool.false_and, Nat.add_sub_cancel]
            exact hide trivial
          go_wp2_with (first
            | (go_at_call 56; refine (readToken_at s a _ hs hlt HA.out kd n 0 HR).mono ?_; rintro e w1 ⟨rfl, hb1⟩; have hown1 := hown.below hb1)
            | (go_at_call 57; refine (clone_any (s.extract a (a + n)) _ hsz).mono ?_; rintro e w2 ⟨rfl, hb2⟩; have hown2 := hown1.below hb2)
            | (at_builtin; refine wpList_append_own _ rfl (.tmp 28) (.tmp 45) 22 rfl w.heap.size 37 i0 _ 4 40 Tryd.underlying22 hi hz0 hz1 hz2 rfl (by decide) _ _ _ rfl (World.ownsRow.alloc hown2 _) ⟨w2.heap.size, 0, none⟩ 1 1 [.int .i64 kd, .string (s.extract a (a + n)), .int .i64 a, .bool false] rfl rfl (four_new _ _ _ _ _ _) (four_one _ _ _ _) ?c3 ?c4 ?c5 ?_))
          case c3 => unfold maxLen; omega
          case c4 => omega
          case c5 => have := hbel.size; have := hb1.size; have := hb2.size; simp; omega
          intro v' w' hown' hgrow hnn
          rw [← HT.out] at hown'
          have hst := line_step hown hbel hb1 hb2 hown' hgrow
          clear hown' hgrow hown2 hown1 hown hnn
          go_wp2_with (go_at_call 55; refine (skip_any s _ _ hs (by omega) (by omega)).mono ?_; rintro e w3 ⟨rfl, hw3⟩; subst w3)
          have e1 : ((a : Int) + (n : Int)).toNat = a + n := by omega
          go_roundw
          case rel => exact ⟨Sc.skipB s.data.toList (a + n), f - 1, _, by omega, by omega, by rw [e1], hst.1, by simp; omega, hst.2, HG, fun h => Sc.skipB_at _ _ h⟩
          case measure => rw [e1]; simp [intOf]; omega
      · have hne : (er != 0) = true := by simpa using her
        have HX : Hid (LR = ([], er, a)) := by
          rw [HK.out, Sc.lineGo_bad _ _ _ _ (by omega) (by omega) (by rw [HR.out]; exact her), HR.out]; exact hide rfl
        go_wp2_with (go_at_call 56; refine (readToken_at s a _ hs hlt HA.out kd n er HR).mono ?_; rintro e w' ⟨rfl, hb1⟩)
        go_ret3
        exact ⟨_, by rw [HX.out]; rfl, by rw [HX.out]; exact Owns.nil _ _, hbel.trans (hb1.mono hbel.size)⟩
    · have HX : Hid (LR = (acc, 0, 0)) := by
        rw [HK.out, Sc.lineGo_end _ _ _ _ (by omega)]; exact hide rfl
      go_wp2
      go_ret3
      exact ⟨_, by rw [HX.out]; rfl, by rw [HX.out]; exact hown, hbel⟩
end Go.Proofs.YtigdfhcmhidhbaaDoor
