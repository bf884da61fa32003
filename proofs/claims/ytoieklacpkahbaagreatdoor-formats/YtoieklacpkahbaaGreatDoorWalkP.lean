/- Walks: the second layout's style. -/
import Derived.Test.YtoieklacpkahbaaGreatDoorWalkO
import Derived.BigQuiet
import Derived.Deep.QuietTactic
import Derived.Deep.RegionWith
import Derived.Test.YtoieklacpkahbaaGreatDoorPlainM
namespace Go.Proofs.YtoieklacpkahbaaGreatDoor
open Go.RowKit
namespace Sc
/-- A list's style, by its first tokens. -/
def styT (o f : Tok) (sk : Int) : Int × Bool :=
  if o.text = [40] ∧ f.kind = 1 ∧ f.text ∈ forms then (2, sk != 5)
  else if o.text = [40] ∧ f.kind = 1 ∧ f.text ∈ blocks then (2, false)
  else if f.kind = 1 ∧ f.text.take 2 ≠ [35, 124] ∧ sk ≠ 5 ∧ sk ≠ 3 then (o.text.length + f.text.length + 1, true)
  else (o.text.length, false)
end Sc
theorem cells_lit {W : World} {g : Nat} {xs : List ByteArray} {t : TypeId} (hg : g = W.heap.size) : ∀ i (hi : i < xs.length), (W.alloc (Obj.cells (xs.map Value.string).toArray t)).cell? ⟨g, i, none⟩ = some (.string xs[i]) := by
  intro i hi
  subst hg
  rw [World.cell?_alloc_mark]
  simp
theorem cell_old (W : World) (o : Obj) (b j : Nat) (h : b < W.heap.size) : (W.alloc o).cell? ⟨b, j, none⟩ = W.cell? ⟨b, j, none⟩ := ((Below.refl _ W).alloc (Nat.le_refl _) o).cell h
theorem cell_new (W : World) (C : Array Value) (t : TypeId) (b j : Nat) (h : b = W.heap.size) : (W.alloc (.cells C t)).cell? ⟨b, j, none⟩ = C[j]? := by
  subst h; exact World.cell?_alloc_mark W C t _ j
theorem one_forms (s : ByteArray) (W : World) (g : Nat) (b : Bool) (hb : Hid (formsB.any (fun x => x.toList == s.toList) = b)) (hg : g = W.heap.size) :
    Calls Tryz.prog 141 #[.string s, .slice (some ⟨g, 0, none⟩) 7 7] (W.alloc (Obj.cells #[Value.string { data := #[100, 101, 102, 105, 110, 101] }, Value.string { data := #[108, 97, 109, 98, 100, 97] }, Value.string { data := #[108, 101, 116] }, Value.string { data := #[108, 101, 116, 42] }, Value.string { data := #[108, 101, 116, 114, 101, 99] }, Value.string { data := #[119, 104, 101, 110] }, Value.string { data := #[117, 110, 108, 101, 115, 115] }] 9))
      fun e w' => e = .returned (.bool b) ∧ w' = (W.alloc (Obj.cells #[Value.string { data := #[100, 101, 102, 105, 110, 101] }, Value.string { data := #[108, 97, 109, 98, 100, 97] }, Value.string { data := #[108, 101, 116] }, Value.string { data := #[108, 101, 116, 42] }, Value.string { data := #[108, 101, 116, 114, 101, 99] }, Value.string { data := #[119, 104, 101, 110] }, Value.string { data := #[117, 110, 108, 101, 115, 115] }] 9)) :=
  (one_any s g 7 formsB _ rfl (by decide) (cells_lit (xs := formsB) hg)).mono fun _ _ h => ⟨h.1.trans (by rw [hb.out]), h.2⟩
theorem one_blocks (s : ByteArray) (W : World) (g : Nat) (b : Bool) (hb : Hid (blocksB.any (fun x => x.toList == s.toList) = b)) (hg : g = W.heap.size) :
    Calls Tryz.prog 141 #[.string s, .slice (some ⟨g, 0, none⟩) 4 4] (W.alloc (Obj.cells #[Value.string { data := #[98, 101, 103, 105, 110] }, Value.string { data := #[99, 111, 110, 100] }, Value.string { data := #[101, 108, 115, 101] }, Value.string { data := #[100, 111] }] 9))
      fun e w' => e = .returned (.bool b) ∧ w' = (W.alloc (Obj.cells #[Value.string { data := #[98, 101, 103, 105, 110] }, Value.string { data := #[99, 111, 110, 100] }, Value.string { data := #[101, 108, 115, 101] }, Value.string { data := #[100, 111] }] 9)) :=
  (one_any s g 4 blocksB _ rfl (by decide) (cells_lit (xs := blocksB) hg)).mono fun _ _ h => ⟨h.1.trans (by rw [hb.out]), h.2⟩

set_option maxRecDepth 20000 in
set_option maxHeartbeats 600000 in
theorem rstyle_no (ao : Option Addr) (cap : Nat) (ts : List Sc.Tok) (B0 : Nat) (w : World) (W : Int) (i : Nat) (h : Owns w B0 (.slice ao ts.length cap) ts) (hi : i + 1 < ts.length) (hn : ts.length ≤ 4096) (h1 : ts[i + 1].kind ≠ 1) (hts : ∀ t ∈ ts, t.text.length ≤ 4096) :
    Calls Tryz.prog 99 #[.agg #[.slice ao ts.length cap, .int .i64 W], .int .i64 i] w fun e w' => e = .returned (.tuple #[.int .i64 ts[i].text.length, .bool false]) ∧ Below w.heap.size w w' := by
  obtain ⟨g, hg1, -, -, hg4, hcap, -, c1, -, -⟩ := h.at i (by omega)
  subst hg1
  obtain ⟨g', hg1, -, -, -, -, d0, d1, d2, d3⟩ := h.at (i + 1) hi
  injection hg1 with hg1; injection hg1 with hg1; subst hg1
  have hl := hts ts[i] (List.getElem_mem _)
  have hl2 := hts ts[i + 1] (List.getElem_mem _)
  rw [← bsize] at hl hl2 ⊢
  generalize (⟨ts[i].text.toArray⟩ : ByteArray) = ot at c1 hl ⊢
  generalize (⟨ts[i + 1].text.toArray⟩ : ByteArray) = ft at d1 hl2
  have k1 : (ts[i + 1].kind == 1) = false := by simpa using h1
  generalize ts[i + 1].kind = fk at d0 k1
  generalize ts[i + 1].place = fp at d2
  generalize ts[i + 1].behind = fb at d3
  clear h1 h hts
  obtain ⟨b3, HB3⟩ : ∃ b, Hid (formsB.any (fun x => x.toList == ft.toList) = b) := ⟨_, hide rfl⟩
  obtain ⟨b4, HB4⟩ : ∃ b, Hid (blocksB.any (fun x => x.toList == ft.toList) = b) := ⟨_, hide rfl⟩
  obtain ⟨b1, hb1⟩ : ∃ b, (ot.toList == [40]) = b := ⟨_, rfl⟩
  cases b1 with
  | true =>
    go_enter Tryz.func99, Tryz.ntmps99
    go_wp2_with fail
    refine (one_forms ft _ _ b3 HB3 ?sz).mono ?_
    case sz => first | rfl | omega | simp
    rintro e w1 ⟨rfl, hw1⟩
    have hbel : Below w.heap.size w w1 := by rw [hw1]; exact ((((Below.refl _ w).alloc (Nat.le_refl _) _).alloc (by simp) _).alloc (by simp; omega) _).alloc (by simp; omega) _
    have f0 : w1.cell? ⟨w.heap.size + 1, 0, none⟩ = some (.int .i64 fk) := by rw [hw1, cell_old _ _ _ _ (by simp), cell_old _ _ _ _ (by simp), cell_new _ _ _ _ _ (by simp)]; rfl
    have f1 : w1.cell? ⟨w.heap.size + 1, 1, none⟩ = some (.string ft) := by rw [hw1, cell_old _ _ _ _ (by simp), cell_old _ _ _ _ (by simp), cell_new _ _ _ _ _ (by simp)]; rfl
    have s0 : w1.cell? ⟨w.heap.size + 1 + 1, 0, none⟩ = some (.int .i64 fk) := by rw [hw1, cell_old _ _ _ _ (by simp), cell_new _ _ _ _ _ (by simp)]; rfl
    have hsz : w1.heap.size = w.heap.size + 4 := by rw [hw1]; simp
    clear hw1
    go_wp2_with fail
    refine (one_blocks ft _ _ b4 HB4 ?sz).mono ?_
    case sz => first | rfl | omega | simp
    rintro e w2 ⟨rfl, hw2⟩
    have hbel2 : Below w.heap.size w w2 := by rw [hw2]; exact hbel.alloc (by omega) _
    have hb2 : Below w1.heap.size w1 w2 := by rw [hw2]; exact (Below.refl _ _).alloc (Nat.le_refl _) _
    have g0 := (hb2.cell (p := ⟨w.heap.size + 1, 0, none⟩) (by show w.heap.size + 1 < _; omega)).trans f0
    have g1 := (hb2.cell (p := ⟨w.heap.size + 1, 1, none⟩) (by show w.heap.size + 1 < _; omega)).trans f1
    have t0 := (hb2.cell (p := ⟨w.heap.size + 1 + 1, 0, none⟩) (by show w.heap.size + 1 + 1 < _; omega)).trans s0
    clear hw2 hb2 f0 f1 s0 hsz hbel
    go_wp2
    all_goals
      go_ret2
      exact ⟨rfl, hbel2⟩
  | false =>
    go_enter Tryz.func99, Tryz.ntmps99
    go_wp2_with fail
    refine (one_forms ft _ _ b3 HB3 ?sz).mono ?_
    case sz => first | rfl | omega | simp
    rintro e w1 ⟨rfl, hw1⟩
    have hbel : Below w.heap.size w w1 := by rw [hw1]; exact ((((Below.refl _ w).alloc (Nat.le_refl _) _).alloc (by simp) _).alloc (by simp; omega) _).alloc (by simp; omega) _
    have f0 : w1.cell? ⟨w.heap.size + 1, 0, none⟩ = some (.int .i64 fk) := by rw [hw1, cell_old _ _ _ _ (by simp), cell_old _ _ _ _ (by simp), cell_new _ _ _ _ _ (by simp)]; rfl
    have f1 : w1.cell? ⟨w.heap.size + 1, 1, none⟩ = some (.string ft) := by rw [hw1, cell_old _ _ _ _ (by simp), cell_old _ _ _ _ (by simp), cell_new _ _ _ _ _ (by simp)]; rfl
    have s0 : w1.cell? ⟨w.heap.size + 1 + 1, 0, none⟩ = some (.int .i64 fk) := by rw [hw1, cell_old _ _ _ _ (by simp), cell_new _ _ _ _ _ (by simp)]; rfl
    have hsz : w1.heap.size = w.heap.size + 4 := by rw [hw1]; simp
    clear hw1
    go_wp2_with fail
    refine (one_blocks ft _ _ b4 HB4 ?sz).mono ?_
    case sz => first | rfl | omega | simp
    rintro e w2 ⟨rfl, hw2⟩
    have hbel2 : Below w.heap.size w w2 := by rw [hw2]; exact hbel.alloc (by omega) _
    have hb2 : Below w1.heap.size w1 w2 := by rw [hw2]; exact (Below.refl _ _).alloc (Nat.le_refl _) _
    have g0 := (hb2.cell (p := ⟨w.heap.size + 1, 0, none⟩) (by show w.heap.size + 1 < _; omega)).trans f0
    have g1 := (hb2.cell (p := ⟨w.heap.size + 1, 1, none⟩) (by show w.heap.size + 1 < _; omega)).trans f1
    have t0 := (hb2.cell (p := ⟨w.heap.size + 1 + 1, 0, none⟩) (by show w.heap.size + 1 + 1 < _; omega)).trans s0
    clear hw2 hb2 f0 f1 s0 hsz hbel
    go_wp2
    all_goals
      go_ret2
      exact ⟨rfl, hbel2⟩
theorem fin {a X : Int} {b Y : Bool} (h : (a, b) = (X, Y)) : Ending.returned (.tuple #[.int .i64 a, .bool b]) = Ending.returned (.tuple #[.int .i64 X, .bool Y]) := by
  simp only [Prod.mk.injEq] at h; rw [h.1, h.2]
theorem headB {ft : ByteArray} {x : List UInt8} (h : ft = ⟨x.toArray⟩) (hz : 1 < ft.size) : x.take 2 = [ft[0], ft[1]] := by
  subst h
  match x, hz with
  | a :: b :: r, _ => rfl
  | [a], hz => simp [ByteArray.size] at hz
  | [], hz => simp [ByteArray.size] at hz
theorem headB1 {ft : ByteArray} {x : List UInt8} (h : ft = ⟨x.toArray⟩) (hz : ¬ 1 < ft.size) : x.take 2 ≠ [35, 124] := by
  subst h
  intro e
  have := congrArg List.length e
  simp [ByteArray.size] at this hz
  omega

set_option maxRecDepth 20000 in
set_option maxHeartbeats 4000000 in
theorem rstyle_yes (ao : Option Addr) (cap : Nat) (ts : List Sc.Tok) (B0 : Nat) (w : World) (W : Int) (i : Nat) (h : Owns w B0 (.slice ao ts.length cap) ts) (hi : i + 2 < ts.length) (hn : ts.length ≤ 4096) (h1 : ts[i + 1].kind = 1) (hts : ∀ t ∈ ts, t.text.length ≤ 4096)
    (b1 b3 b4 cm : Bool) (HB1 : Hid ((ts[i].text == [40]) = b1)) (HB3 : Hid (formsB.any (fun x => x.toList == (⟨ts[i + 1].text.toArray⟩ : ByteArray).toList) = b3)) (HB4 : Hid (blocksB.any (fun x => x.toList == (⟨ts[i + 1].text.toArray⟩ : ByteArray).toList) = b4)) (HCM : Hid ((ts[i + 1].text.take 2 == [35, 124]) = cm))
    (X : Int) (Y : Bool) (HX : Hid ((if b1 && b3 then ((2 : Int), ts[i + 2].kind != 5) else if b1 && b4 then (2, false) else if !cm && ts[i + 2].kind != 5 && ts[i + 2].kind != 3 then ((ts[i].text.length : Int) + ts[i + 1].text.length + 1, true) else ((ts[i].text.length : Int), false)) = (X, Y))) :
    Calls Tryz.prog 99 #[.agg #[.slice ao ts.length cap, .int .i64 W], .int .i64 i] w fun e w' => e = .returned (.tuple #[.int .i64 X, .bool Y]) ∧ Below w.heap.size w w' := by
  obtain ⟨g, hg1, -, -, hg4, hcap, -, c1, -, -⟩ := h.at i (by omega)
  subst hg1
  obtain ⟨g', hg1, -, -, -, -, d0, d1, d2, d3⟩ := h.at (i + 1) (by omega)
  injection hg1 with hg1; injection hg1 with hg1; subst hg1
  obtain ⟨g', hg1, -, -, -, -, e0, e1, e2, e3⟩ := h.at (i + 2) (by omega)
  injection hg1 with hg1; injection hg1 with hg1; subst hg1
  have hl := hts ts[i] (List.getElem_mem _)
  have hl2 := hts ts[i + 1] (List.getElem_mem _)
  obtain ⟨ot, hot⟩ : ∃ x : ByteArray, x = ⟨ts[i].text.toArray⟩ := ⟨_, rfl⟩
  obtain ⟨ft, hft⟩ : ∃ x : ByteArray, x = ⟨ts[i + 1].text.toArray⟩ := ⟨_, rfl⟩
  have hb1 : (ot.toList == [40]) = b1 := by rw [← HB1.out, hot, ByteArray.toList_mk]
  have HCM2 : Hid (∀ hz : 1 < ft.size, (cm = true → ((ft[0].toNat : Int) == 35) = true) ∧ (cm = true → ((ft[1].toNat : Int) == 124) = true) ∧ (cm = false → ((ft[0].toNat : Int) == 35) = true → ((ft[1].toNat : Int) == 124) = false)) := by
    intro hz
    rw [← HCM.out, headB hft hz]
    refine ⟨fun e => ?_, fun e => ?_, fun e e0 => ?_⟩
    · simp at e; rw [e.1]; rfl
    · simp at e; rw [e.2]; rfl
    · have h0 : ft[0] = 35 := Sc.u8t (d := 35) e0
      rw [h0] at e
      simp at e
      simp only [beq_eq_false_iff_ne, ne_eq]
      intro e1
      exact e (UInt8.toNat_inj.1 (by show ft[1].toNat = 124; omega))
  have HCN : Hid (¬ 1 < ft.size → cm = false) := by
    intro hz
    rw [← HCM.out]
    have := headB1 hft hz
    simpa using this
  rw [← bsize, ← hot] at hl
  rw [← bsize, ← hft] at hl2
  have hX2 := HX.out
  have z1 : ot.size = ts[i].text.length := by rw [hot, bsize]
  have z2 : ft.size = ts[i + 1].text.length := by rw [hft, bsize]
  rw [← z1, ← z2] at hX2
  rw [← hot] at c1
  rw [← hft] at d1 HB3 HB4
  rw [h1] at d0
  generalize ts[i + 2].kind = sk at e0 hX2
  clear HX HCM HB1 z1 z2 hot hft
  have HX := hide hX2
  have HCM := HCM2
  clear hX2 HCM2
  generalize ts[i + 1].place = fp at d2
  generalize ts[i + 1].behind = fb at d3
  generalize (⟨ts[i + 2].text.toArray⟩ : ByteArray) = st at e1
  generalize ts[i + 2].place = sp at e2
  generalize ts[i + 2].behind = sb at e3
  clear h1 h hts
  have hg5 : g < w.heap.size + 1 := by omega
  have hg6 : g < w.heap.size + 1 + 1 := by omega
  cases b1 with
  | true =>
    go_enter Tryz.func99, Tryz.ntmps99
    go_wp2_with fail
    refine (one_forms ft _ _ b3 HB3 ?sz0).mono ?_
    case sz0 => first | rfl | omega | simp
    rintro e w1 ⟨rfl, hw1⟩
    have hbel : Below w.heap.size w w1 := by rw [hw1]; exact ((((Below.refl _ w).alloc (Nat.le_refl _) _).alloc (by simp) _).alloc (by simp; omega) _).alloc (by simp; omega) _
    have f0 : w1.cell? ⟨w.heap.size + 1, 0, none⟩ = some (.int .i64 1) := by rw [hw1, cell_old _ _ _ _ (by simp), cell_old _ _ _ _ (by simp), cell_new _ _ _ _ _ (by simp)]; rfl
    have f1 : w1.cell? ⟨w.heap.size + 1, 1, none⟩ = some (.string ft) := by rw [hw1, cell_old _ _ _ _ (by simp), cell_old _ _ _ _ (by simp), cell_new _ _ _ _ _ (by simp)]; rfl
    have s0 : w1.cell? ⟨w.heap.size + 1 + 1, 0, none⟩ = some (.int .i64 sk) := by rw [hw1, cell_old _ _ _ _ (by simp), cell_new _ _ _ _ _ (by simp)]; rfl
    have hsz : w1.heap.size = w.heap.size + 4 := by rw [hw1]; simp
    clear hw1
    go_wp2_with fail
    refine (one_blocks ft _ _ b4 HB4 ?sz1).mono ?_
    case sz1 => first | rfl | omega | simp
    rintro e w2 ⟨rfl, hw2⟩
    have hbel2 : Below w.heap.size w w2 := by rw [hw2]; exact hbel.alloc (by omega) _
    have hb2 : Below w1.heap.size w1 w2 := by rw [hw2]; exact (Below.refl _ _).alloc (Nat.le_refl _) _
    have g0 := (hb2.cell (p := ⟨w.heap.size + 1, 0, none⟩) (by show w.heap.size + 1 < _; omega)).trans f0
    have g1 := (hb2.cell (p := ⟨w.heap.size + 1, 1, none⟩) (by show w.heap.size + 1 < _; omega)).trans f1
    have t0 := (hb2.cell (p := ⟨w.heap.size + 1 + 1, 0, none⟩) (by show w.heap.size + 1 + 1 < _; omega)).trans s0
    clear hw2 hb2 f0 f1 s0 hsz hbel
    cases b3 with
    | true =>
      have HE := hide HX.out
      go_wp2
      all_goals
        go_quiet (fail)
        go_wp2
        go_ret2
        exact ⟨fin HE.out, below_drewN hbel2 _⟩
    | false =>
      cases b4 with
      | true =>
        have HE := hide HX.out
        go_wp2
        all_goals
          go_ret2
          exact ⟨fin HE.out, hbel2⟩
      | false =>
        cases cm with
        | true =>
          by_cases hz : 1 < ft.size
          · have hh := HCM.out hz
            have q0 : ((ft[0].toNat : Int) == 35) = true := hh.1 rfl
            have q1 : ((ft[1].toNat : Int) == 124) = true := hh.2.1 rfl
            have HE := hide (HX.out)
            clear hh
            go_wp2
            go_ret2
            exact ⟨fin HE.out, hbel2⟩
          · exact absurd (HCN.out hz) (by decide)
        | false =>
          by_cases hz : 1 < ft.size
          · have hh := HCM.out hz
            cases q0 : ((ft[0].toNat : Int) == 35) with
            | true =>
              have q1 : ((ft[1].toNat : Int) == 124) = false := hh.2.2 rfl q0
              clear hh
              cases s5 : (sk == 5) with
              | true =>
                have n5 : (sk != 5) = false := by simpa using s5
                have HE := hide (HX.out); rw [n5] at HE
                go_wp2
                go_ret2
                exact ⟨fin HE.out, hbel2⟩
              | false =>
                have n5 : (sk != 5) = true := by simpa using s5
                cases s3 : (sk == 3) with
                | true =>
                  have n3 : (sk != 3) = false := by simpa using s3
                  have HE := hide (HX.out); rw [n5, n3] at HE
                  go_wp2
                  go_ret2
                  exact ⟨fin HE.out, hbel2⟩
                | false =>
                  have n3 : (sk != 3) = true := by simpa using s3
                  have HE := hide (HX.out); rw [n5, n3] at HE
                  go_wp2
                  go_ret2
                  exact ⟨fin HE.out, hbel2⟩
            | false =>
              clear hh
              cases s5 : (sk == 5) with
              | true =>
                have n5 : (sk != 5) = false := by simpa using s5
                have HE := hide (HX.out); rw [n5] at HE
                go_wp2
                go_ret2
                exact ⟨fin HE.out, hbel2⟩
              | false =>
                have n5 : (sk != 5) = true := by simpa using s5
                cases s3 : (sk == 3) with
                | true =>
                  have n3 : (sk != 3) = false := by simpa using s3
                  have HE := hide (HX.out); rw [n5, n3] at HE
                  go_wp2
                  go_ret2
                  exact ⟨fin HE.out, hbel2⟩
                | false =>
                  have n3 : (sk != 3) = true := by simpa using s3
                  have HE := hide (HX.out); rw [n5, n3] at HE
                  go_wp2
                  go_ret2
                  exact ⟨fin HE.out, hbel2⟩
          · cases s5 : (sk == 5) with
            | true =>
              have n5 : (sk != 5) = false := by simpa using s5
              have HE := hide (HX.out); rw [n5] at HE
              go_wp2
              go_ret2
              exact ⟨fin HE.out, hbel2⟩
            | false =>
              have n5 : (sk != 5) = true := by simpa using s5
              cases s3 : (sk == 3) with
              | true =>
                have n3 : (sk != 3) = false := by simpa using s3
                have HE := hide (HX.out); rw [n5, n3] at HE
                go_wp2
                go_ret2
                exact ⟨fin HE.out, hbel2⟩
              | false =>
                have n3 : (sk != 3) = true := by simpa using s3
                have HE := hide (HX.out); rw [n5, n3] at HE
                go_wp2
                go_ret2
                exact ⟨fin HE.out, hbel2⟩
  | false =>
    go_enter Tryz.func99, Tryz.ntmps99
    go_wp2_with fail
    refine (one_forms ft _ _ b3 HB3 ?sz2).mono ?_
    case sz2 => first | rfl | omega | simp
    rintro e w1 ⟨rfl, hw1⟩
    have hbel : Below w.heap.size w w1 := by rw [hw1]; exact ((((Below.refl _ w).alloc (Nat.le_refl _) _).alloc (by simp) _).alloc (by simp; omega) _).alloc (by simp; omega) _
    have f0 : w1.cell? ⟨w.heap.size + 1, 0, none⟩ = some (.int .i64 1) := by rw [hw1, cell_old _ _ _ _ (by simp), cell_old _ _ _ _ (by simp), cell_new _ _ _ _ _ (by simp)]; rfl
    have f1 : w1.cell? ⟨w.heap.size + 1, 1, none⟩ = some (.string ft) := by rw [hw1, cell_old _ _ _ _ (by simp), cell_old _ _ _ _ (by simp), cell_new _ _ _ _ _ (by simp)]; rfl
    have s0 : w1.cell? ⟨w.heap.size + 1 + 1, 0, none⟩ = some (.int .i64 sk) := by rw [hw1, cell_old _ _ _ _ (by simp), cell_new _ _ _ _ _ (by simp)]; rfl
    have hsz : w1.heap.size = w.heap.size + 4 := by rw [hw1]; simp
    clear hw1
    go_wp2_with fail
    refine (one_blocks ft _ _ b4 HB4 ?sz3).mono ?_
    case sz3 => first | rfl | omega | simp
    rintro e w2 ⟨rfl, hw2⟩
    have hbel2 : Below w.heap.size w w2 := by rw [hw2]; exact hbel.alloc (by omega) _
    have hb2 : Below w1.heap.size w1 w2 := by rw [hw2]; exact (Below.refl _ _).alloc (Nat.le_refl _) _
    have g0 := (hb2.cell (p := ⟨w.heap.size + 1, 0, none⟩) (by show w.heap.size + 1 < _; omega)).trans f0
    have g1 := (hb2.cell (p := ⟨w.heap.size + 1, 1, none⟩) (by show w.heap.size + 1 < _; omega)).trans f1
    have t0 := (hb2.cell (p := ⟨w.heap.size + 1 + 1, 0, none⟩) (by show w.heap.size + 1 + 1 < _; omega)).trans s0
    clear hw2 hb2 f0 f1 s0 hsz hbel
    cases cm with
    | true =>
      by_cases hz : 1 < ft.size
      · have hh := HCM.out hz
        have q0 : ((ft[0].toNat : Int) == 35) = true := hh.1 rfl
        have q1 : ((ft[1].toNat : Int) == 124) = true := hh.2.1 rfl
        have HE := hide (HX.out)
        clear hh
        go_wp2
        go_ret2
        exact ⟨fin HE.out, hbel2⟩
      · exact absurd (HCN.out hz) (by decide)
    | false =>
      by_cases hz : 1 < ft.size
      · have hh := HCM.out hz
        cases q0 : ((ft[0].toNat : Int) == 35) with
        | true =>
          have q1 : ((ft[1].toNat : Int) == 124) = false := hh.2.2 rfl q0
          clear hh
          cases s5 : (sk == 5) with
          | true =>
            have n5 : (sk != 5) = false := by simpa using s5
            have HE := hide (HX.out); rw [n5] at HE
            go_wp2
            go_ret2
            exact ⟨fin HE.out, hbel2⟩
          | false =>
            have n5 : (sk != 5) = true := by simpa using s5
            cases s3 : (sk == 3) with
            | true =>
              have n3 : (sk != 3) = false := by simpa using s3
              have HE := hide (HX.out); rw [n5, n3] at HE
              go_wp2
              go_ret2
              exact ⟨fin HE.out, hbel2⟩
            | false =>
              have n3 : (sk != 3) = true := by simpa using s3
              have HE := hide (HX.out); rw [n5, n3] at HE
              go_wp2
              go_ret2
              exact ⟨fin HE.out, hbel2⟩
        | false =>
          clear hh
          cases s5 : (sk == 5) with
          | true =>
            have n5 : (sk != 5) = false := by simpa using s5
            have HE := hide (HX.out); rw [n5] at HE
            go_wp2
            go_ret2
            exact ⟨fin HE.out, hbel2⟩
          | false =>
            have n5 : (sk != 5) = true := by simpa using s5
            cases s3 : (sk == 3) with
            | true =>
              have n3 : (sk != 3) = false := by simpa using s3
              have HE := hide (HX.out); rw [n5, n3] at HE
              go_wp2
              go_ret2
              exact ⟨fin HE.out, hbel2⟩
            | false =>
              have n3 : (sk != 3) = true := by simpa using s3
              have HE := hide (HX.out); rw [n5, n3] at HE
              go_wp2
              go_ret2
              exact ⟨fin HE.out, hbel2⟩
      · cases s5 : (sk == 5) with
        | true =>
          have n5 : (sk != 5) = false := by simpa using s5
          have HE := hide (HX.out); rw [n5] at HE
          go_wp2
          go_ret2
          exact ⟨fin HE.out, hbel2⟩
        | false =>
          have n5 : (sk != 5) = true := by simpa using s5
          cases s3 : (sk == 3) with
          | true =>
            have n3 : (sk != 3) = false := by simpa using s3
            have HE := hide (HX.out); rw [n5, n3] at HE
            go_wp2
            go_ret2
            exact ⟨fin HE.out, hbel2⟩
          | false =>
            have n3 : (sk != 3) = true := by simpa using s3
            have HE := hide (HX.out); rw [n5, n3] at HE
            go_wp2
            go_ret2
            exact ⟨fin HE.out, hbel2⟩
end Go.Proofs.YtoieklacpkahbaaGreatDoor
