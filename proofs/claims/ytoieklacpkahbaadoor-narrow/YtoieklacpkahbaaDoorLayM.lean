/- Walks: the program's writer: broken lists. -/
/- Walks: the program's styles: how they lay a list out. -/
import Derived.Test.YtoieklacpkahbaaDoorLayK
namespace Go.Proofs.YtoieklacpkahbaaDoor
open Go.RowKit
namespace Sc
theorem colB_len : ∀ (l : List UInt8) (c : Nat), colB c l ≤ c + l.length := by
  intro l
  induction l with
  | nil => intro c; simp [colB]
  | cons b l ih =>
    intro c
    have : colB c (b :: l) = colB (if b = 10 then 0 else c + 1) l := rfl
    rw [this, List.length_cons]
    split
    · have := ih 0; omega
    · have := ih (c + 1); omega
/-- A broken list. -/
def brk (W : Nat) (o : Tok) (es : List El) (col c : Nat) (b : Bool) (tail : Nat) : List UInt8 := o.text ++ (render (layL W es 0 (col + o.text.length) c b (tail + 1)) [] ++ (closeGap es c ++ [41]))
end Sc

set_option maxRecDepth 100000 in
set_option maxHeartbeats 4000000 in
theorem broken_any (o : Sc.Tok) (es : List Sc.El) (hC : ∀ e ∈ es, ElemW e) (hw : Sc.WFL es) (hT : TW (Sc.toksL es)) (ho : Sc.No10 o.text) (hol : o.text.length ≤ 4096) (N x W : Nat) (l : List UInt8) (col : Nat) (w : World) (p f : Int) (ao : Option Addr) (cap bn : Nat) (b : Bool) (c tail : Nat) (hbn : bn = if b then 2 else 1) (hW : W ≤ 200) (hk : Wk N x W l col w)
    (hv : RowV (Ne x) w es.length (.slice ao es.length cap) (ElsAt (Ne x) w es)) (hX2 : ∀ e r, es = e :: r → c ≤ col + o.text.length + 2 * Sc.wt e.toks) (hcc : c ≤ 100000) (hX3 : col + o.text.length + 2 * Sc.wt (Sc.toksL es) ≤ 100000) (hl : l.length + o.text.length + 300000 * (Sc.toksL es).length ≤ 10000000000) (hla : tail + 1 + (Sc.toksL es).length ≤ 1000000) (hRl : (Sc.render (Sc.layL W es 0 (col + o.text.length) c b (tail + 1)) []).length ≤ 10000000000) :
    Calls Tryd.prog 117 #[.pointer (some ⟨x, 0, none⟩), .agg #[.int .i64 o.kind, .string ⟨o.text.toArray⟩, .int .i64 p, .bool o.behind, .slice ao es.length cap, .int .i64 f], .int .i64 bn, .int .i64 c, .int .i64 tail] w fun r w' => r = .returned (.tuple #[]) ∧
      Wk N x W (l ++ Sc.brk W o es col c b tail) (Sc.colB col (Sc.brk W o es col c b tail)) w' ∧ Fw N x w w' := by
  have hx : x < w.heap.size := Nat.lt_of_lt_of_le hk.x hk.n
  have HP := hide (fun w' (h' : Wk N x W l col w') => wput o.text h' (by omega) (by omega))
  obtain ⟨R, hR⟩ : ∃ R, R = Sc.render (Sc.layL W es 0 (col + o.text.length) c b (tail + 1)) [] := ⟨_, rfl⟩
  obtain ⟨B, hB⟩ : ∃ B, B = Sc.brk W o es col c b tail := ⟨_, rfl⟩
  rw [← hB]
  unfold Sc.brk at hB
  rw [← hR] at hB
  have HV := hide (fun w' (hf : Fw N x w w') => hv.fw hf (fun cs h => ElsAt.fw hf es cs h))
  have HRW := hide (fun w' (hf : Fw N x w w') (h' : Wk N x W (l ++ o.text) (col + o.text.length) w') => row_any es hC hw hT N x W (l ++ o.text) (col + o.text.length) w' ao cap bn b c (tail + 1) (col + o.text.length) hbn hW h' (HV.out w' hf) (Nat.le_refl _) hX2 hcc hX3 (by rw [List.length_append]; omega) hla)
  simp only [← hR] at HRW
  rw [← hR] at hRl
  have HK := hide hk
  have HWF := hide hw
  clear hk hC hT hR hbn hw
  obtain ⟨c2, hc2⟩ : ∃ c2, c2 = Sc.colB (col + o.text.length) R := ⟨_, rfl⟩
  rw [← hc2] at HRW
  have hc2l : c2 ≤ 10001000000 := by have := Sc.colB_len R (col + o.text.length); omega
  have hkb : ((tail + 1 : Nat) : Int) = (tail : Int) + 1 := by omega
  rw [hkb] at HRW
  have hcol : ∀ G, Sc.colB col (o.text ++ (R ++ G)) = Sc.colB c2 G := by
    intro G
    rw [Sc.colB_app, Sc.colB_no10 _ _ ho, Sc.colB_app, ← hc2]
  have HCOL := hide hcol
  have HB := hide hB
  clear hcol hB hc2 hX2 ho
  generalize (⟨o.text.toArray⟩ : ByteArray) = tt at *
  go_enter Tryd.func117, Tryd.ntmps117
  go_wp2_with (go_at_call 43; refine (HP.out _ (HK.out.new _)).mono ?_; rintro e w1 ⟨rfl, hk1, hf1⟩; have HB1 := hide ((SixB.new w _ _ _ _ _ _).fw hf1 (by omega)); obtain ⟨hl1, c0, c1, d2, c3, c4, c5, -, -, -, -, -, -⟩ := HB1.out.at; have HF1 := hide (((Fw.refl N x w).alloc HK.out.n _).trans hf1); have HK1 := hide hk1; clear hk1 hf1)
  refine (HRW.out _ HF1.out HK1.out).mono ?_
  rintro e w2 ⟨rfl, hk2, hf2⟩
  have HF2 := hide (HF1.out.trans hf2)
  have HK2 := hide hk2
  have HB2 := hide (HB1.out.fw hf2 (by omega))
  clear hk2 hf2 hl1 c0 c1 d2 c3 c4 c5 HB1 HF1 HK1 HRW HP
  obtain ⟨hl1, c0, c1, d2, c3, c4, c5, -, -, -, -, -, -⟩ := HB2.out.at
  have hll : ((l ++ o.text) ++ R).length = l.length + o.text.length + R.length := by simp; omega
  by_cases hem : es = []
  · subst hem
    have HPC := hide (fun w' (h' : Wk N x W ((l ++ o.text) ++ R) c2 w') => wput [41] h' (by rw [hll, List.length_singleton]; omega) (by rw [List.length_singleton]; omega))
    clear hll
    go_wp2_with (go_at_call 43; refine (HPC.out _ HK2.out).mono ?_; rintro e w3 ⟨rfl, hk3, hf3⟩)
    go_end0
    have e1 : Sc.closeGap ([] : List Sc.El) c = [] := rfl
    have hB := HB.out
    rw [e1, List.nil_append] at hB
    rw [hB, HCOL.out]
    refine ⟨rfl, ?_, HF2.out.trans hf3⟩
    have e2 : l ++ (o.text ++ (R ++ [41])) = l ++ o.text ++ R ++ [41] := by simp
    have e3 : Sc.colB c2 [41] = c2 + [(41 : UInt8)].length := rfl
    rw [e2, e3]
    exact hk3
  · have hpos : 0 < es.length := List.length_pos_iff.2 hem
    obtain ⟨g, cap', pp, vo, vn, vc, e1, hne, hg, hcp, hE, z0, z1, z2, z3, z4, z5⟩ := (HV.out _ HF2.out).cells (es.length - 1) (by omega)
    injection e1 with e1 e2 e3
    subst e1 e3
    have hlast : es.getLast? = some es[es.length - 1] := by rw [List.getLast?_eq_getElem?, List.getElem?_eq_getElem (by omega)]
    have hcg : Sc.closeGap es c = if es[es.length - 1].first.kind == 5 then Sc.nl c else [] := by
      unfold Sc.closeGap
      rw [hlast]
      simp only
      rw [Sc.El.isC_first_eq (WFL_mem (List.getElem_mem _) HWF.out)]
    have HCG := hide hcg
    have hm1 : (0 : Int) ≤ es.length - 1 := by omega
    have hm2 : es.length ≤ 1000000 := by have := toksL_len es; omega
    clear hcg hlast hE e2
    generalize es[es.length - 1].first.kind = kk at *
    generalize (⟨es[es.length - 1].first.text.toArray⟩ : ByteArray) = b1 at *
    generalize es[es.length - 1].first.behind = q1 at *
    generalize es[es.length - 1].fl = f1 at *
    cases k5 : (kk == 5) with
    | true =>
      rw [k5, if_pos rfl] at HCG
      have HNL := hide (fun w' (h' : Wk N x W ((l ++ o.text) ++ R) c2 w') => wnl c h' (by rw [hll]; omega) (by omega))
      have HPC := hide (fun w' (h' : Wk N x W ((l ++ o.text) ++ R ++ Sc.nl c) c w') => wput [41] h' (by rw [List.length_append, hll, List.length_singleton]; simp [Sc.nl]; omega) (by rw [List.length_singleton]; omega))
      clear hll
      go_wp2_with (first
        | (go_at_call 60; refine (is_any _ _ _ _ _ _ _ _).mono ?_; rintro e w3 ⟨he, rfl⟩; rw [k5] at he; subst he)
        | (go_at_call 32; refine (HNL.out _ (HK2.out.new _)).mono ?_; rintro e w4 ⟨rfl, hk4, hf4⟩; have HF4 := hide ((HF2.out.alloc HK2.out.n _).trans hf4); have HK4 := hide hk4; clear hk4 hf4)
        | (go_at_call 43; refine (HPC.out _ HK4.out).mono ?_; rintro e w5 ⟨rfl, hk5, hf5⟩))
      go_end0
      have hB := HB.out
      rw [HCG.out] at hB
      rw [hB, HCOL.out]
      refine ⟨rfl, ?_, HF4.out.trans hf5⟩
      have e2 : l ++ (o.text ++ (R ++ (Sc.nl c ++ [41]))) = l ++ o.text ++ R ++ Sc.nl c ++ [41] := by simp
      have e3 : Sc.colB c2 (Sc.nl c ++ [41]) = c + [(41 : UInt8)].length := by rw [Sc.colB_app, Sc.colB_nl]; rfl
      rw [e2, e3]
      exact hk5
    | false =>
      rw [k5] at HCG
      have HPC := hide (fun w' (h' : Wk N x W ((l ++ o.text) ++ R) c2 w') => wput [41] h' (by rw [hll, List.length_singleton]; omega) (by rw [List.length_singleton]; omega))
      clear hll
      go_wp2_with (first
        | (go_at_call 60; refine (is_any _ _ _ _ _ _ _ _).mono ?_; rintro e w3 ⟨he, rfl⟩; rw [k5] at he; subst he)
        | (go_at_call 43; refine (HPC.out _ (HK2.out.new _)).mono ?_; rintro e w5 ⟨rfl, hk5, hf5⟩))
      go_end0
      have hB := HB.out
      rw [HCG.out, if_neg (by simp), List.nil_append] at hB
      rw [hB, HCOL.out]
      refine ⟨rfl, ?_, (HF2.out.alloc HK2.out.n _).trans hf5⟩
      have e2 : l ++ (o.text ++ (R ++ [41])) = l ++ o.text ++ R ++ [41] := by simp
      have e3 : Sc.colB c2 [41] = c2 + [(41 : UInt8)].length := rfl
      rw [e2, e3]
      exact hk5
end Go.Proofs.YtoieklacpkahbaaDoor
namespace Go.Proofs.YtoieklacpkahbaaDoor
open Go.RowKit
theorem Wk.cells {N x : Nat} {W : Int} {l : List UInt8} {c : Nat} {w : World} (h : Wk N x W l c w) : w.cell? ⟨x, 2, none⟩ = some (.int .i64 W) ∧ w.cell? ⟨x, 3, none⟩ = some (.int .i64 c) ∧ x < w.heap.size := ⟨h.wr.cells.1, h.wr.cells.2.1, h.wr.cells.2.2.1⟩
theorem wrap_small (x : Int) (h1 : 0 ≤ x) (h2 : x ≤ 1000000000000) : IntKind.i64.wrap x = x := by
  rw [IntKind.wrap_i64]
  omega
theorem Fw.drewN {N x : Nat} {a w : World} (h : Fw N x a w) (n : Nat) : Fw N x a (w.drewN n) := ⟨⟨h.fr.os, h.fr.tape, h.fr.output, h.fr.size, h.fr.block⟩, h.keep⟩
theorem Wk.drewN {N x : Nat} {W : Int} {l : List UInt8} {c : Nat} {w : World} (h : Wk N x W l c w) (n : Nat) : Wk N x W l c (w.drewN n) := h.of ⟨rfl, rfl, rfl, Nat.le_refl _, fun _ _ => rfl⟩
/-- What broken does. -/
def BrkC (N x : Nat) (W : Int) (l : List UInt8) (col : Nat) (w : World) (o : Sc.Tok) (p f : Int) (ao : Option Addr) (n cap : Nat) (bn c tail : Nat) (L : List UInt8) (C : Nat) : Prop :=
  ∀ w', Fw N x w w' → Wk N x W l col w' → Calls Tryd.prog 117 #[.pointer (some ⟨x, 0, none⟩), .agg #[.int .i64 o.kind, .string ⟨o.text.toArray⟩, .int .i64 p, .bool o.behind, .slice ao n cap, .int .i64 f], .int .i64 bn, .int .i64 c, .int .i64 tail] w' fun r w'' => r = .returned (.tuple #[]) ∧ Wk N x W L C w'' ∧ Fw N x w' w''

set_option maxHeartbeats 1000000 in
theorem layRows_any (N x : Nat) (W : Int) (l : List UInt8) (col : Nat) (w : World) (o : Sc.Tok) (p f : Int) (ao : Option Addr) (n cap tail : Nat) (L : List UInt8) (C : Nat) (hk : Wk N x W l col w) (hc : col ≤ 200000) (hol : o.text.length ≤ 4096) (H : BrkC N x W l col w o p f ao n cap 1 (col + o.text.length) tail L C) :
    Calls Tryd.prog 103 #[.pointer (some ⟨x, 0, none⟩), .agg #[.int .i64 o.kind, .string ⟨o.text.toArray⟩, .int .i64 p, .bool o.behind, .slice ao n cap, .int .i64 f], .int .i64 tail] w fun r w' => r = .returned (.tuple #[]) ∧ Wk N x W L C w' ∧ Fw N x w w' := by
  obtain ⟨-, c3, hx⟩ := hk.cells
  have HB := hide H
  unfold BrkC at HB
  have HK := hide hk
  clear hk H
  have hsz := wbsize o.text
  rw [← hsz] at HB hol
  clear hsz
  generalize (⟨o.text.toArray⟩ : ByteArray) = tt at *
  have hcs : ((col + tt.size : Nat) : Int) = (col : Int) + tt.size := by omega
  rw [hcs] at HB
  clear hcs
  have hwr := hide (wrap_small ((col : Int) + tt.size) (by omega) (by omega))
  go_enter Tryd.func103, Tryd.ntmps103
  go_wp2
  go_region_with (go_at_call 117; rw [hwr.out]; refine (HB.out _ ((Fw.refl N x w).alloc HK.out.n _).drew (HK.out.new _).drew).mono ?_; rintro e w1 ⟨rfl, hk1, hf1⟩)
  all_goals go_wp2
  all_goals go_end0
  all_goals exact ⟨rfl, hk1, (((Fw.refl N x w).alloc HK.out.n _).drew).trans hf1⟩

set_option maxHeartbeats 1000000 in
theorem layBlock_any (N x : Nat) (W : Int) (l : List UInt8) (col : Nat) (w : World) (o : Sc.Tok) (p f : Int) (ao : Option Addr) (n cap tail : Nat) (L : List UInt8) (C : Nat) (hk : Wk N x W l col w) (hc : col ≤ 200000) (H : BrkC N x W l col w o p f ao n cap 1 (col + 2) tail L C) :
    Calls Tryd.prog 99 #[.pointer (some ⟨x, 0, none⟩), .agg #[.int .i64 o.kind, .string ⟨o.text.toArray⟩, .int .i64 p, .bool o.behind, .slice ao n cap, .int .i64 f], .int .i64 tail] w fun r w' => r = .returned (.tuple #[]) ∧ Wk N x W L C w' ∧ Fw N x w w' := by
  obtain ⟨-, c3, hx⟩ := hk.cells
  have HB := hide H
  unfold BrkC at HB
  have HK := hide hk
  clear hk H
  generalize (⟨o.text.toArray⟩ : ByteArray) = tt at *
  have hcs : ((col + 2 : Nat) : Int) = (col : Int) + 2 := by omega
  rw [hcs] at HB
  clear hcs
  have hwr := hide (wrap_small ((col : Int) + 2) (by omega) (by omega))
  go_enter Tryd.func99, Tryd.ntmps99
  go_wp2
  go_region_with (go_at_call 117; rw [hwr.out]; refine (HB.out _ ((Fw.refl N x w).alloc HK.out.n _).drew (HK.out.new _).drew).mono ?_; rintro e w1 ⟨rfl, hk1, hf1⟩)
  all_goals go_wp2
  all_goals go_end0
  all_goals exact ⟨rfl, hk1, (((Fw.refl N x w).alloc HK.out.n _).drew).trans hf1⟩

set_option maxHeartbeats 1000000 in
theorem layForm_any (N x : Nat) (W : Int) (l : List UInt8) (col : Nat) (w : World) (o : Sc.Tok) (p f : Int) (ao : Option Addr) (es : List Sc.El) (cap tail : Nat) (L : List UInt8) (C : Nat) (hk : Wk N x W l col w) (hc : col ≤ 200000) (hv : RowV (Ne x) w es.length (.slice ao es.length cap) (ElsAt (Ne x) w es))
    (H : BrkC N x W l col w o p f ao es.length cap (if Sc.pl2 es then 2 else 1) (col + 2) tail L C) :
    Calls Tryd.prog 97 #[.pointer (some ⟨x, 0, none⟩), .agg #[.int .i64 o.kind, .string ⟨o.text.toArray⟩, .int .i64 p, .bool o.behind, .slice ao es.length cap, .int .i64 f], .int .i64 tail] w fun r w' => r = .returned (.tuple #[]) ∧ Wk N x W L C w' ∧ Fw N x w w' := by
  have hx : x < w.heap.size := hk.cells.2.2
  have HB := hide H
  have HS := hide (fun w' (hf : Fw N x w w') => second_any o p f (.slice ao es.length cap) es (Ne x) w' (hv.fw hf (fun cs h => ElsAt.fw hf es cs h)))
  have HK := hide hk
  clear hk H
  unfold BrkC at HB
  generalize (⟨o.text.toArray⟩ : ByteArray) = tt at *
  have hcs : ((col + 2 : Nat) : Int) = (col : Int) + 2 := by omega
  rw [hcs] at HB
  clear hcs
  have hwr := hide (wrap_small ((col : Int) + 2) (by omega) (by omega))
  cases hp : Sc.pl2 es with
  | true =>
    rw [hp] at HB HS
    simp only [if_true] at HB
    go_enter Tryd.func97, Tryd.ntmps97
    go_wp2_with (first
      | (go_at_call 116; refine (HS.out _ ((Fw.refl N x w).alloc HK.out.n _)).mono ?_; rintro e w1 ⟨rfl, hb1⟩; have HK1 := hide ((HK.out.new _).of hb1); have HF1 := hide (((Fw.refl N x w).alloc HK.out.n _).trans (Fw.of hb1 (HK.out.new _).n)); have HB1 := hide ((SixB.new w _ _ _ _ _ _).be hb1); obtain ⟨hl1, c0, c1, c2, c3, c4, c5, -, -, -, -, -, -⟩ := HB1.out.at; obtain ⟨-, d3, hx1⟩ := HK1.out.cells; clear hb1)
      | fail)
    go_region_with (go_at_call 117; rw [hwr.out]; refine (HB.out _ HF1.out.drew HK1.out.drew).mono ?_; rintro e w2 ⟨rfl, hk2, hf2⟩)
    all_goals go_wp2
    all_goals go_end0
    all_goals exact ⟨rfl, hk2, HF1.out.drew.trans hf2⟩
  | false =>
    rw [hp] at HB HS
    simp only [Bool.false_eq_true, if_false] at HB
    go_enter Tryd.func97, Tryd.ntmps97
    go_wp2_with (first
      | (go_at_call 116; refine (HS.out _ ((Fw.refl N x w).alloc HK.out.n _)).mono ?_; rintro e w1 ⟨rfl, hb1⟩; have HK1 := hide ((HK.out.new _).of hb1); have HF1 := hide (((Fw.refl N x w).alloc HK.out.n _).trans (Fw.of hb1 (HK.out.new _).n)); have HB1 := hide ((SixB.new w _ _ _ _ _ _).be hb1); obtain ⟨hl1, c0, c1, c2, c3, c4, c5, -, -, -, -, -, -⟩ := HB1.out.at; obtain ⟨-, d3, hx1⟩ := HK1.out.cells; clear hb1)
      | fail)
    go_region_with (go_at_call 117; rw [hwr.out]; refine (HB.out _ HF1.out.drew HK1.out.drew).mono ?_; rintro e w2 ⟨rfl, hk2, hf2⟩)
    all_goals go_wp2
    all_goals go_end0
    all_goals exact ⟨rfl, hk2, HF1.out.drew.trans hf2⟩

set_option maxHeartbeats 1000000 in
theorem layCall_any (N x : Nat) (W : Int) (l : List UInt8) (col : Nat) (w : World) (o : Sc.Tok) (p f : Int) (ao : Option Addr) (e0 : Sc.El) (es : List Sc.El) (cap tail : Nat) (L : List UInt8) (C : Nat) (hk : Wk N x W l col w) (hc : col ≤ 200000) (hol : o.text.length ≤ 4096) (hel : e0.first.text.length ≤ 4096) (hv : RowV (Ne x) w (e0 :: es).length (.slice ao (e0 :: es).length cap) (ElsAt (Ne x) w (e0 :: es)))
    (H : BrkC N x W l col w o p f ao (e0 :: es).length cap 2 (col + (o.text.length + e0.first.text.length + 1)) tail L C) :
    Calls Tryd.prog 101 #[.pointer (some ⟨x, 0, none⟩), .agg #[.int .i64 o.kind, .string ⟨o.text.toArray⟩, .int .i64 p, .bool o.behind, .slice ao (e0 :: es).length cap, .int .i64 f], .int .i64 tail] w fun r w' => r = .returned (.tuple #[]) ∧ Wk N x W L C w' ∧ Fw N x w w' := by
  obtain ⟨-, c3, hx⟩ := hk.cells
  obtain ⟨g, cap', pp, vo, vn, vc, e1, -, hg, hcp, -, d0, d1, d2, d3, d4, d5⟩ := hv.cells 0 (by simp)
  injection e1 with e1 e2 e3
  subst e1 e3
  have HB := hide H
  unfold BrkC at HB
  have HK := hide hk
  clear hk H e2 hv d0 d2 d3 d4 d5
  have hcs : ((col + (o.text.length + e0.first.text.length + 1) : Nat) : Int) = (col : Int) + o.text.length + e0.first.text.length + 1 := by omega
  rw [hcs] at HB
  clear hcs
  have hsz := wbsize o.text
  have hsz2 := wbsize e0.first.text
  rw [← hsz, ← hsz2] at HB
  rw [← hsz] at hol
  rw [← hsz2] at hel
  clear hsz hsz2
  generalize (⟨o.text.toArray⟩ : ByteArray) = tt at *
  have d1' : w.cell? ⟨g, 1, none⟩ = some (.string ⟨e0.first.text.toArray⟩) := d1
  clear d1
  generalize (⟨e0.first.text.toArray⟩ : ByteArray) = t0 at *
  generalize hln : (e0 :: es).length = n at *
  have hn : 0 < n := by rw [← hln]; simp
  clear hln
  go_enter Tryd.func101, Tryd.ntmps101
  go_wp2
  go_quiet (fail)
  go_wp2_with (go_at_call 117; refine (HB.out _ (((Fw.refl N x w).alloc HK.out.n _).drewN _) ((HK.out.new _).drewN _)).mono ?_; rintro e w1 ⟨rfl, hk1, hf1⟩)
  go_end0
  exact ⟨rfl, hk1, (((Fw.refl N x w).alloc HK.out.n _).drewN _).trans hf1⟩
end Go.Proofs.YtoieklacpkahbaaDoor
