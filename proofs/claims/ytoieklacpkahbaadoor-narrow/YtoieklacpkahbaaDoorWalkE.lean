/- Walks: readLine. -/
/- Walks: strings.Split as it is called; readTokens. -/
import Derived.Test.YtoieklacpkahbaaDoorWalkC
import Derived.Test.YtoieklacpkahbaaDoorOwn
import Derived.Test.YtoieklacpkahbaaDoorPlainE
import Derived.Maps.AppendAt
namespace Go.Proofs.YtoieklacpkahbaaDoor
open Go.RowKit

theorem infoTok : (Tryd.prog.info? 37).map (fun i => (i.zero, i.size, i.bytes)) = some (some (.agg #[.int .i64 0, .string ⟨#[]⟩, .int .i64 0, .bool false]), 4, 40) := by kernel_rfl

theorem ascii_drop {l : List UInt8} (h : Sc.Ascii l) (a : Nat) : Sc.Ascii (l.drop a) := fun j b hj => h (a + j) b (by rw [List.getElem?_drop] at hj; exact hj)

theorem readToken_at (s : ByteArray) (a : Nat) (w : World) (hs : s.size ≤ 4096) (h1 : a < s.size) (ha : Sc.Ascii s.data.toList) (kd : Int) (n : Nat) (er : Int) (HR : Hid (Sc.readTok (s.data.toList.drop a) = (kd, n, er))) :
    Calls Tryd.prog 56 #[.string (s.extract a s.size)] w fun e w' => e = .returned (.tuple #[.int .i64 kd, .int .i64 n, .int .i64 er]) ∧ Below w.heap.size w w' := by
  have hl := Lib.extract_to_end s a
  have hz : (s.extract a s.size).size = s.size - a := by rw [← Sc.lsize, hl, List.length_drop, Sc.lsize]
  have h := readToken_any (s.extract a s.size) w (by omega) (by omega) (by rw [hl]; exact ascii_drop ha a)
  rw [hl, HR.out] at h
  exact h

theorem tok_ok {l : List UInt8} {a n : Nat} {kd : Int} (h : a < l.length) (hb : Sc.isBl l[a] = false) (hR : Sc.readTok (l.drop a) = (kd, n, 0)) : 1 ≤ n ∧ a + n ≤ l.length := by
  rw [List.drop_eq_getElem_cons h] at hR
  have := Sc.readTok_ok l[a] (l.drop (a + 1)) hb (by rw [hR])
  rw [hR, List.length_cons, List.length_drop] at this
  simp only at this
  omega

theorem four_new (w : World) (e : TypeId) (x0 x1 x2 x3 : Value) : ∀ j u, [x0, x1, x2, x3][j]? = some u → (w.alloc (.cells #[x0, x1, x2, x3] e)).cell? ((⟨w.heap.size, 0, none⟩ : Addr).add j) = some u := by
  intro j u hj
  match j, hj with
  | 0, hj => simp at hj; subst hj; simp [Addr.add]
  | 1, hj => simp at hj; subst hj; simp [Addr.add]
  | 2, hj => simp at hj; subst hj; simp [Addr.add]
  | 3, hj => simp at hj; subst hj; simp [Addr.add]
  | _ + 4, hj => simp at hj
theorem four_one (kd : Int) (t : ByteArray) (p : Int) (b : Bool) : ∀ u ∈ [Value.int .i64 kd, .string t, .int .i64 p, .bool b], u.oneCell' = true := by
  intro u hu
  simp at hu
  rcases hu with rfl | rfl | rfl | rfl <;> rfl

theorem tok_cells (s : ByteArray) (a n : Nat) (kd p : Int) (b : Bool) : (⟨kd, (s.data.toList.drop a).take n, p, b⟩ : Sc.Tok).cells = [.int .i64 kd, .string (s.extract a (a + n)), .int .i64 p, .bool b] := by
  unfold Sc.Tok.cells
  rw [Lib.extract_eq, show a + n - a = n by omega]

theorem line_step {w wr w1 w2 w' : World} {u v' : Value} {acc : List Sc.Tok} {t : Sc.Tok} {o : Obj} (hown : Owns wr w.heap.size u acc) (hbel : Below w.heap.size w wr) (hb1 : Below wr.heap.size wr w1) (hb2 : Below w1.heap.size w1 w2)
    (ho : w'.ownsRow w.heap.size 37 4 v' (acc.length + 1) (Sc.tcells acc ++ t.cells)) (hg : (w2.alloc o).grownBy w' u.ownBlock) : Owns w' w.heap.size v' (acc ++ [t]) ∧ Below w.heap.size w w' := by
  refine ⟨?_, ?_⟩
  · unfold Owns
    rw [Sc.tcells_append, List.length_append]
    simpa [Sc.tcells] using ho
  · have s1 := hbel.size
    have s2 := hb1.size
    have s3 := hb2.size
    refine (((hbel.trans (hb1.mono s1)).trans (hb2.mono (by omega))).alloc (by omega) o).grown hg (by simp; omega) fun k hk => (World.ownsRow.lt hown k hk).1

set_option maxRecDepth 20000 in
set_option maxHeartbeats 400000 in
theorem readLine_any (s : ByteArray) (w : World) (hs : s.size ≤ 4096) (ha : Sc.Ascii s.data.toList) :
    Calls Tryd.prog 41 #[.string s] w fun e w' => ∃ v, e = .returned (.tuple #[v, .int .i64 (Sc.lineRes s.data.toList).2.1, .int .i64 ((Sc.lineRes s.data.toList).2.2 : Nat)]) ∧
      Owns w' w.heap.size v (Sc.lineRes s.data.toList).1 ∧ Below w.heap.size w w' := by
  have hz := Sc.lsize s
  have HA := hide ha; clear ha
  have hk0 := Sc.skipB_le s.data.toList 0 (by omega)
  obtain ⟨i0, hi, hz0, hz1, hz2⟩ := info_parts infoTok
  generalize hL : Sc.lineRes s.data.toList = LR
  have HL := hide hL; clear hL
  go_enter Tryd.func41, Tryd.ntmps41
  go_wp2_with (go_at_call 55; refine (skip_any s 0 _ hs (by omega) (by omega)).mono ?_; rintro e w' ⟨rfl, hw0⟩; subst w')
  go_loopw [5, 6] (fun v i wr => ∃ (a f : Nat) (acc : List Sc.Tok), a ≤ s.size ∧ s.size < f + a ∧ i = .int .i64 a ∧ Owns wr w.heap.size v acc ∧ acc.length ≤ a ∧ Below w.heap.size w wr ∧
      Hid (LR = Sc.lineGo s.data.toList f a acc) ∧ Hid (∀ h : a < s.data.toList.length, Sc.isBl s.data.toList[a] = false)) (fun _ i _ => s.size - (intOf i).toNat)
  case atStart => exact ⟨Sc.skipB s.data.toList 0, s.data.toList.length + 1, [], by omega, by omega, rfl, Owns.nil _ _, by simp, Below.refl _ _, HL.out.symm, fun h => Sc.skipB_at _ _ h⟩
  case round =>
    obtain ⟨a, f, acc, h1, h2, rfl, hown, hal, hbel, HK, HB⟩ := hrel
    by_cases hlt : a < s.size
    · obtain ⟨⟨kd, n, er⟩, hR⟩ : ∃ R, Sc.readTok (s.data.toList.drop a) = R := ⟨_, rfl⟩
      have HR := hide hR; clear hR
      by_cases her : er = 0
      · subst her
        have hn := tok_ok (by omega) (HB.out (by omega)) HR.out
        have hsz : (s.extract a (a + n)).size ≤ 4096 := by rw [← Sc.lsize, Lib.extract_data, List.length_take, List.length_drop]; omega
        have hsk := Sc.skipB_le s.data.toList (a + n) (by omega)
        cases hkd : (kd == 5) with
        | true =>
          have htc := tok_cells s a n kd a (Sc.endsEl acc)
          have HT := hide htc; clear htc
          have HG : Hid (LR = Sc.lineGo s.data.toList (f - 1) (Sc.skipB s.data.toList (a + n)) (acc ++ [⟨kd, (s.data.toList.drop a).take n, a, Sc.endsEl acc⟩])) := by
            rw [HK.out, show f = (f - 1) + 1 by omega, Sc.lineGo_on _ _ _ _ (by omega) (by rw [HR.out])]
            simp only [HR.out, hkd, Bool.true_and, Nat.add_sub_cancel]
            exact hide trivial
          go_wp2_with (first
            | (go_at_call 56; refine (readToken_at s a _ hs hlt HA.out kd n 0 HR).mono ?_; rintro e w1 ⟨rfl, hb1⟩; have hown1 := hown.below hb1)
            | (go_at_call 57; refine (clone_any (s.extract a (a + n)) _ hsz).mono ?_; rintro e w2 ⟨rfl, hb2⟩; have hown2 := hown1.below hb2)
            | (go_at_call 58; refine (endsElement_any _ acc w.heap.size _ hown2 (by omega)).mono ?_; rintro e w3 ⟨rfl, hw3⟩; subst w3)
            | (at_builtin; refine wpList_append_own _ rfl (.tmp 28) (.tmp 45) 22 rfl w.heap.size 37 i0 _ 4 40 Tryd.underlying22 hi hz0 hz1 hz2 rfl (by decide) _ _ _ rfl (World.ownsRow.alloc hown2 _) ⟨w2.heap.size, 0, none⟩ 1 1 [.int .i64 kd, .string (s.extract a (a + n)), .int .i64 a, .bool (Sc.endsEl acc)] rfl rfl (four_new _ _ _ _ _ _) (four_one _ _ _ _) ?c3 ?c4 ?c5 ?_))
          case c3 => unfold maxLen; omega
          case c4 => omega
          case c5 => have := hbel.size; have := hb1.size; have := hb2.size; simp; omega
          intro v' w' hown' hgrow hnn
          rw [← HT.out] at hown'
          have hst := line_step hown hbel hb1 hb2 hown' hgrow
          clear hown' hgrow hown2 hown1 hown hnn
          go_wp2_with (go_at_call 55; refine (skip_any s _ _ hs (by omega) (by omega)).mono ?_; rintro e w3 ⟨rfl, hw3⟩; subst w3)
          have e1 : ((a : Int) + (n : Int)).toNat = a + n := by omega
          go_roundw
          case rel => exact ⟨Sc.skipB s.data.toList (a + n), f - 1, _, by omega, by omega, by rw [e1], hst.1, by simp; omega, hst.2, HG, fun h => Sc.skipB_at _ _ h⟩
          case measure => rw [e1]; simp [intOf]; omega
        | false =>
          have htc := tok_cells s a n kd a false
          have HT := hide htc; clear htc
          have HG : Hid (LR = Sc.lineGo s.data.toList (f - 1) (Sc.skipB s.data.toList (a + n)) (acc ++ [⟨kd, (s.data.toList.drop a).take n, a, false⟩])) := by
            rw [HK.out, show f = (f - 1) + 1 by omega, Sc.lineGo_on _ _ _ _ (by omega) (by rw [HR.out])]
            simp only [HR.out, hkd, Bool.false_and, Nat.add_sub_cancel]
            exact hide trivial
          go_wp2_with (first
            | (go_at_call 56; refine (readToken_at s a _ hs hlt HA.out kd n 0 HR).mono ?_; rintro e w1 ⟨rfl, hb1⟩; have hown1 := hown.below hb1)
            | (go_at_call 57; refine (clone_any (s.extract a (a + n)) _ hsz).mono ?_; rintro e w2 ⟨rfl, hb2⟩; have hown2 := hown1.below hb2)
            | (at_builtin; refine wpList_append_own _ rfl (.tmp 28) (.tmp 45) 22 rfl w.heap.size 37 i0 _ 4 40 Tryd.underlying22 hi hz0 hz1 hz2 rfl (by decide) _ _ _ rfl (World.ownsRow.alloc hown2 _) ⟨w2.heap.size, 0, none⟩ 1 1 [.int .i64 kd, .string (s.extract a (a + n)), .int .i64 a, .bool false] rfl rfl (four_new _ _ _ _ _ _) (four_one _ _ _ _) ?c3 ?c4 ?c5 ?_))
          case c3 => unfold maxLen; omega
          case c4 => omega
          case c5 => have := hbel.size; have := hb1.size; have := hb2.size; simp; omega
          intro v' w' hown' hgrow hnn
          rw [← HT.out] at hown'
          have hst := line_step hown hbel hb1 hb2 hown' hgrow
          clear hown' hgrow hown2 hown1 hown hnn
          go_wp2_with (go_at_call 55; refine (skip_any s _ _ hs (by omega) (by omega)).mono ?_; rintro e w3 ⟨rfl, hw3⟩; subst w3)
          have e1 : ((a : Int) + (n : Int)).toNat = a + n := by omega
          go_roundw
          case rel => exact ⟨Sc.skipB s.data.toList (a + n), f - 1, _, by omega, by omega, by rw [e1], hst.1, by simp; omega, hst.2, HG, fun h => Sc.skipB_at _ _ h⟩
          case measure => rw [e1]; simp [intOf]; omega
      · have hne : (er != 0) = true := by simpa using her
        have HX : Hid (LR = ([], er, a)) := by
          rw [HK.out, Sc.lineGo_bad _ _ _ _ (by omega) (by omega) (by rw [HR.out]; exact her), HR.out]; exact hide rfl
        go_wp2_with (go_at_call 56; refine (readToken_at s a _ hs hlt HA.out kd n er HR).mono ?_; rintro e w' ⟨rfl, hb1⟩)
        go_ret3
        exact ⟨_, by rw [HX.out]; rfl, by rw [HX.out]; exact Owns.nil _ _, hbel.trans (hb1.mono hbel.size)⟩
    · have HX : Hid (LR = (acc, 0, 0)) := by
        rw [HK.out, Sc.lineGo_end _ _ _ _ (by omega)]; exact hide rfl
      go_wp2
      go_ret3
      exact ⟨_, by rw [HX.out]; rfl, by rw [HX.out]; exact hown, hbel⟩
end Go.Proofs.YtoieklacpkahbaaDoor
namespace Go.Proofs.YtoieklacpkahbaaDoor
open Go.RowKit

theorem split_any (s : ByteArray) (w : World) (hs : s.size ≤ 4096) (m : Int) (hm : w.cell? ⟨0, 0, none⟩ = some (.int .i64 m)) :
    Calls Tryd.prog 40 #[.string s, .string ⟨#[10]⟩] w fun e w' => ∃ Ls : List ByteArray, Ls.map (·.data.toList) = Sc.lns s.data.toList ∧ e = .returned (.slice (some ⟨w.heap.size, 0, none⟩) Ls.length Ls.length) ∧
      w'.heap.size = w.heap.size + 1 ∧ Below w.heap.size w w' ∧ ∀ i (h : i < Ls.length), w'.cell? ⟨w.heap.size, i, none⟩ = some (.string Ls[i]) := by
  have h := Any.strings_Split Tryd.lays146 (by kernel_rfl) s ⟨#[10]⟩ m w (by omega) hm (by decide)
  refine h.mono fun e w' ⟨h1, h2⟩ => ⟨Lib.splitB ⟨#[10]⟩ 0 (Lib.countB s ⟨#[10]⟩) s, Sc.splitB_lns s, ?_, ?_, ?_, ?_⟩
  · rw [h1, Lib.splitB_all _ (by decide) 0 _ s rfl]
  · rw [h2]; simp
  · rw [h2]; exact (Below.refl _ _).alloc (Nat.le_refl _) _
  · intro i hi
    rw [h2]
    generalize Lib.splitB ⟨#[10]⟩ 0 (Lib.countB s ⟨#[10]⟩) s = Ls at hi ⊢
    simp [hi]

/-- Two slice values do not share a block. -/
def Apart2 (v m : Value) : Prop := m.ownBlock = none ∨ m.ownBlock ≠ v.ownBlock

theorem four_new2 (w : World) (o : Obj) (e : TypeId) (x0 x1 x2 x3 : Value) : ∀ j u, [x0, x1, x2, x3][j]? = some u → ((w.alloc o).alloc (.cells #[x0, x1, x2, x3] e)).cell? ((⟨w.heap.size + 1, 0, none⟩ : Addr).add j) = some u := by
  have h := four_new (w.alloc o) e x0 x1 x2 x3
  rw [show (w.alloc o).heap.size = w.heap.size + 1 by simp] at h
  exact h
theorem inner_step {W wr w' : World} {B bg j : Nat} {u v' mv : Value} {o1 o2 : Obj} {acc more cur : List Sc.Tok} {tk tp : Int} {tt : List UInt8} {tb : Bool}
    (hj : j < more.length) (htk : (⟨tk, tt, tp, tb⟩ : Sc.Tok) = more[j]) (hcur : cur = acc ++ (more.take j).map (Sc.shift bg)) (ho : Owns wr B u cur) (hm : Owns wr 0 mv more) (hap : Apart2 u mv) (hb : Below B W wr) (hB : B ≤ wr.heap.size)
    (hown : w'.ownsRow B 37 4 v' (cur.length + 1) (Sc.tcells cur ++ [.int .i64 tk, .string ⟨tt.toArray⟩, .int .i64 (tp + bg), .bool tb]))
    (hg : ((wr.alloc o1).alloc o2).grownBy w' u.ownBlock) (hat : v'.ownBlock = u.ownBlock ∨ v'.ownBlock = some (wr.heap.size + 1 + 1)) :
    ∃ cur', cur' = acc ++ (more.take (j + 1)).map (Sc.shift bg) ∧ Owns w' B v' cur' ∧ Owns w' 0 mv more ∧ Apart2 v' mv ∧ Below B W w' := by
  have hm2 : Owns ((wr.alloc o1).alloc o2) 0 mv more := World.ownsRow.alloc (World.ownsRow.alloc hm o1) o2
  refine ⟨_, rfl, ?_, ?_, ?_, ?_⟩
  · have e : acc ++ (more.take (j + 1)).map (Sc.shift bg) = cur ++ [Sc.shift bg ⟨tk, tt, tp, tb⟩] := by
      rw [List.take_succ_eq_append_getElem hj, htk, List.map_append, hcur, List.append_assoc]; rfl
    rw [e]
    unfold Owns
    rw [Sc.tcells_append, List.length_append]
    simpa [Sc.tcells, Sc.Tok.cells, Sc.shift] using hown
  · exact World.ownsRow.kept hm2 hg hap
  · rcases hat with h | h
    · unfold Apart2; rw [h]; exact hap
    · unfold Apart2
      cases hmb : mv.ownBlock with
      | none => exact .inl rfl
      | some g =>
        right
        have := (World.ownsRow.lt hm g hmb).2
        rw [h]
        simp
        omega
  · exact ((hb.alloc hB o1).alloc (by simp; omega) o2).grown hg (by simp; omega) fun k hk => (World.ownsRow.lt ho k hk).1
theorem apart_of {wr w2 : World} {B : Nat} {v mv : Value} {acc more : List Sc.Tok} (h1 : Owns wr B v acc) (h2 : Owns w2 wr.heap.size mv more) : Apart2 v mv := by
  unfold Apart2
  cases hm : mv.ownBlock with
  | none => exact .inl rfl
  | some g =>
    right
    intro e
    have := (World.ownsRow.lt h2 g hm).1
    have := (World.ownsRow.lt h1 g e.symm).2
    omega
theorem drop_line {Ls : List ByteArray} {L : List (List UInt8)} (h : Ls.map (·.data.toList) = L) (k : Nat) (hk : k < Ls.length) : L.drop k = Ls[k].data.toList :: L.drop (k + 1) := by
  subst h
  rw [List.drop_eq_getElem_cons (by simpa using hk)]
  simp
theorem readLine_at (s : ByteArray) (w : World) (hs : s.size ≤ 4096) (ha : Sc.Ascii s.data.toList) (more : List Sc.Tok) (er : Int) (pl : Nat) (HR : Hid (Sc.lineRes s.data.toList = (more, er, pl))) :
    Calls Tryd.prog 41 #[.string s] w fun e w' => ∃ v, e = .returned (.tuple #[v, .int .i64 er, .int .i64 pl]) ∧ Owns w' w.heap.size v more ∧ Below w.heap.size w w' := by
  have h := readLine_any s w hs ha
  rw [HR.out] at h
  exact h
theorem tot_ge (L : List (List UInt8)) : L.length ≤ Sc.tot L := by
  induction L with
  | nil => simp
  | cons l L ih => simp [Sc.tot]; omega

set_option maxRecDepth 20000 in
set_option maxHeartbeats 400000 in
theorem readTokens_any (s : ByteArray) (w : World) (hs : s.size ≤ 4096) (ha : Sc.Ascii s.data.toList) (m : Int) (hm : w.cell? ⟨0, 0, none⟩ = some (.int .i64 m)) :
    Calls Tryd.prog 26 #[.string s] w fun e w' => ∃ v, e = .returned (.tuple #[v, .int .i64 (Sc.toksRes s.data.toList).2.1, .int .i64 ((Sc.toksRes s.data.toList).2.2 : Nat)]) ∧
      Owns w' w.heap.size v (Sc.toksRes s.data.toList).1 ∧ Below w.heap.size w w' := by
  have hz := Sc.lsize s
  have HA := hide (Sc.lns_ascii _ ha); clear ha
  have HT := hide (Sc.tot_lns s.data.toList)
  have hge := tot_ge (Sc.lns s.data.toList)
  rw [HT.out] at hge
  obtain ⟨i0, hi, hz0, hz1, hz2⟩ := info_parts infoTok
  generalize hL : Sc.toksRes s.data.toList = TR
  have HL := hide hL; clear hL
  go_enter Tryd.func26, Tryd.ntmps26
  go_wp2_with (go_at_call 40; refine (split_any s _ hs m hm).mono ?_; rintro e W1 ⟨Ls, hLs, rfl, hW0, hbW, hcl⟩; have hW1 : w.heap.size < W1.heap.size := (by omega); clear hW0; have hll := congrArg List.length hLs; rw [List.length_map] at hll; have hL4 : Ls.length ≤ 4097 := (by omega); clear hll; have HLs := hide hLs; clear hLs; have HC := hide hcl; clear hcl)
  go_loopw [5, 6, 17] (fun v b i wr => ∃ (k bg : Nat) (acc : List Sc.Tok), k ≤ Ls.length ∧ i = .int .i64 k ∧ b = .int .i64 bg ∧ bg + Sc.tot ((Sc.lns s.data.toList).drop k) = s.size + 1 ∧ acc.length ≤ bg ∧
      Owns wr W1.heap.size v acc ∧ Below W1.heap.size W1 wr ∧ Hid (TR = Sc.toksGo ((Sc.lns s.data.toList).drop k) bg acc)) (fun _ _ i _ => Ls.length - (intOf i).toNat)
  case atStart => exact ⟨0, 0, [], by omega, rfl, rfl, by rw [List.drop_zero, HT.out, hz]; omega, by simp, Owns.nil _ _, Below.refl _ _, HL.out.symm⟩
  case round =>
    obtain ⟨k, bg, acc, h1, rfl, rfl, h2, hal, hown, hbel, HK⟩ := hrel
    by_cases hlt : k < Ls.length
    · obtain ⟨ln, hln⟩ : ∃ ln, ln = Ls[k] := ⟨_, rfl⟩
      have hcell : wr.cell? ⟨w.heap.size, k, none⟩ = some (.string ln) := by rw [hln]; exact (hbel.cell (by simp; omega)).trans (HC.out k hlt)
      have hdl := drop_line HLs.out k hlt
      rw [← hln] at hdl
      have hasc : Hid (Sc.Ascii ln.data.toList) := HA.out _ (List.mem_of_mem_drop (by rw [hdl]; exact List.mem_cons_self ..))
      have hlen : bg + ln.size + 1 + Sc.tot ((Sc.lns s.data.toList).drop (k + 1)) = s.size + 1 := by rw [hdl] at h2; simp only [Sc.tot, Sc.lsize] at h2; omega
      have HD := hide hdl; clear hdl hln h2
      obtain ⟨⟨more, er, pl⟩, hR⟩ : ∃ R, Sc.lineRes ln.data.toList = R := ⟨_, rfl⟩
      have hinv := Sc.lineRes_inv ln.data.toList
      rw [hR, Sc.lsize] at hinv
      obtain ⟨hin, hmn, hpl⟩ := hinv
      have HIN := hide hin
      have HR := hide hR; clear hR hin
      simp only at hmn hpl
      by_cases her : er = 0
      · subst her
        go_wp2_with (go_at_call 41; refine (readLine_at ln _ (by omega) hasc.out more 0 pl HR).mono ?_; rintro e w2 ⟨mv, rfl, hmo, hb2⟩; obtain ⟨ao, cp, rfl⟩ := hmo.shape)
        go_loopw [5, 35] (fun v i ww => ∃ (j : Nat) (cur : List Sc.Tok), j ≤ more.length ∧ i = .int .i64 j ∧ Hid (cur = acc ++ (more.take j).map (Sc.shift bg)) ∧ Owns ww W1.heap.size v cur ∧ Owns ww 0 (.slice ao more.length cp) more ∧
          Apart2 v (.slice ao more.length cp) ∧ Below W1.heap.size W1 ww) (fun _ i _ => more.length - (intOf i).toNat)
        case atStart => exact ⟨0, acc, by omega, rfl, hide (by simp), hown.below hb2, hmo.base (Nat.zero_le _), apart_of hown hmo, hbel.trans (hb2.mono hbel.size)⟩
        case round =>
          obtain ⟨j, cur, hj, rfl, HCU, ho2, hm2, hap, hb3⟩ := hrel
          by_cases hjl : j < more.length
          · obtain ⟨g, hg1, hg2, hg3, hg4, _, c0, c1, c2, c3⟩ := hm2.at j hjl
            subst hg1
            have hpb := HIN.out more[j] (List.getElem_mem hjl)
            obtain ⟨⟨tk, tt, tp, tb⟩, htk⟩ : ∃ t, t = more[j] := ⟨_, rfl⟩
            rw [← htk] at c0 c1 c2 c3 hpb
            have HTK := hide htk; clear htk
            simp only at c0 c1 c2 c3 hpb
            obtain ⟨hp0, hp1⟩ := hpb
            rw [Sc.lsize] at hp1
            have hB := hb3.size
            have hlb : cur.length ≤ 9000 := by rw [HCU.out]; simp; omega
            go_wp2_with (at_builtin; refine wpList_append_own_at _ rfl (.tmp 44) (.tmp 46) 22 rfl W1.heap.size 37 i0 _ 4 40 Tryd.underlying22 hi hz0 hz1 hz2 rfl (by decide) _ _ _ rfl (World.ownsRow.alloc (World.ownsRow.alloc ho2 _) _) ⟨wr.heap.size + 1, 0, none⟩ 1 1 [.int .i64 tk, .string ⟨tt.toArray⟩, .int .i64 (tp + bg), .bool tb] rfl rfl (four_new2 _ _ _ _ _ _ _) (four_one _ _ _ _) ?c3 ?c4 ?c5 ?_)
            case c3 => unfold maxLen; omega
            case c4 => omega
            case c5 => first | omega | (simp; omega)
            intro v' w' hown' hgrow hnn hat
            obtain ⟨cur', hcu, hst⟩ := inner_step hjl HTK.out HCU.out ho2 hm2 hap hb3 hB hown' hgrow hat
            have HCU' := hide hcu
            clear hown' hgrow hat hnn hcu
            go_wp2
            go_roundw
            case rel => exact ⟨j + 1, cur', by omega, by go_num, HCU', hst.1, hst.2.1, hst.2.2.1, hst.2.2.2⟩
            case measure => simp [intOf]; omega
          · have hje : j = more.length := by omega
            have hce : cur = acc ++ more.map (Sc.shift bg) := by rw [HCU.out, hje, List.take_length]
            have HKK : Hid (TR = Sc.toksGo ((Sc.lns s.data.toList).drop (k + 1)) (bg + ln.size + 1) cur) := by
              rw [HK.out, HD.out, Sc.toksGo, HR.out, if_pos rfl, hce, Sc.lsize]; exact hide rfl
            have hcl : cur.length ≤ bg + ln.size + 1 := by rw [hce]; simp; omega
            clear hce hje
            go_wp2
            go_roundw
            case rel => exact ⟨k + 1, bg + ln.size + 1, cur, by omega, by go_num, by go_num, by omega, hcl, ho2, hb3, HKK⟩
            case measure => simp [intOf]; omega
      · have hne : (er != 0) = true := by simpa using her
        have HX : Hid (TR = ([], er, bg + pl)) := by
          rw [HK.out, HD.out, Sc.toksGo, HR.out, if_neg her]; exact hide rfl
        go_wp2_with (go_at_call 41; refine (readLine_at ln _ (by omega) hasc.out more er pl HR).mono ?_; rintro e w2 ⟨mv, rfl, hmo, hb2⟩)
        go_ret3
        exact ⟨.slice none 0 0, by rw [HX.out]; simp, by rw [HX.out]; exact Owns.nil _ _, (hbW.trans (hbel.mono (by omega))).trans (hb2.mono (by have := hbel.size; omega))⟩
    · have HX : Hid (TR = (acc, 0, 0)) := by
        have hd : (Sc.lns s.data.toList).drop k = [] := List.drop_eq_nil_of_le (by rw [← HLs.out, List.length_map]; omega)
        rw [HK.out, hd]; exact hide rfl
      go_wp2
      go_ret3
      exact ⟨_, by rw [HX.out]; rfl, by rw [HX.out]; exact hown.base (by omega), hbW.trans (hbel.mono (by omega))⟩
end Go.Proofs.YtoieklacpkahbaaDoor
