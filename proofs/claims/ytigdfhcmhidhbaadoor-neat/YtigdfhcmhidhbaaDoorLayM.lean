/- Walks: the program's styles: how they lay a list out. -/
import Derived.Test.YtigdfhcmhidhbaaDoorLayL
namespace Go.Proofs.YtigdfhcmhidhbaaDoor
open Go.RowKit
theorem Wk.cells {N x : Nat} {W : Int} {l : List UInt8} {c : Nat} {w : World} (h : Wk N x W l c w) : w.cell? ⟨x, 2, none⟩ = some (.int .i64 W) ∧ w.cell? ⟨x, 3, none⟩ = some (.int .i64 c) ∧ x < w.heap.size := ⟨h.wr.cells.1, h.wr.cells.2.1, h.wr.cells.2.2.1⟩
theorem wrap_small (x : Int) (h1 : 0 ≤ x) (h2 : x ≤ 1000000000000) : IntKind.i64.wrap x = x := by
  rw [IntKind.wrap_i64]
  omega
theorem Fw.drewN {N x : Nat} {a w : World} (h : Fw N x a w) (n : Nat) : Fw N x a (w.drewN n) := ⟨⟨h.fr.os, h.fr.tape, h.fr.output, h.fr.size, h.fr.block⟩, h.keep⟩
theorem Wk.drewN {N x : Nat} {W : Int} {l : List UInt8} {c : Nat} {w : World} (h : Wk N x W l c w) (n : Nat) : Wk N x W l c (w.drewN n) := h.of ⟨rfl, rfl, rfl, Nat.le_refl _, fun _ _ => rfl⟩
/-- What broken does. -/
def BrkC (N x : Nat) (W : Int) (l : List UInt8) (col : Nat) (w : World) (o : Sc.Tok) (p f : Int) (ao : Option Addr) (n cap : Nat) (bn c tail : Nat) (L : List UInt8) (C : Nat) : Prop :=
  ∀ w', Fw N x w w' → Wk N x W l col w' → Calls Tryd.prog 117 #[.pointer (some ⟨x, 0, none⟩), .agg #[.int .i64 o.kind, .string ⟨o.text.toArray⟩, .int .i64 p, .bool o.behind, .slice ao n cap, .int .i64 f], .int .i64 bn, .int .i64 c, .int .i64 tail] w' fun r w'' => r = .returned (.tuple #[]) ∧ Wk N x W L C w'' ∧ Fw N x w' w''

set_option maxHeartbeats 1000000 in
theorem layRows_any (N x : Nat) (W : Int) (l : List UInt8) (col : Nat) (w : World) (o : Sc.Tok) (p f : Int) (ao : Option Addr) (n cap tail : Nat) (L : List UInt8) (C : Nat) (hk : Wk N x W l col w) (hc : col ≤ 200000) (hol : o.text.length ≤ 4096) (H : BrkC N x W l col w o p f ao n cap 1 (col + o.text.length) tail L C) :
    Calls Tryd.prog 103 #[.pointer (some ⟨x, 0, none⟩), .agg #[.int .i64 o.kind, .string ⟨o.text.toArray⟩, .int .i64 p, .bool o.behind, .slice ao n cap, .int .i64 f], .int .i64 tail] w fun r w' => r = .returned (.tuple #[]) ∧ Wk N x W L C w' ∧ Fw N x w w' := by
  obtain ⟨-, c3, hx⟩ := hk.cells
  have HB := hide H
  unfold BrkC at HB
  have HK := hide hk
  clear hk H
  have hsz := wbsize o.text
  rw [← hsz] at HB hol
  clear hsz
  generalize (⟨o.text.toArray⟩ : ByteArray) = tt at *
  have hcs : ((col + tt.size : Nat) : Int) = (col : Int) + tt.size := by omega
  rw [hcs] at HB
  clear hcs
  have hwr := hide (wrap_small ((col : Int) + tt.size) (by omega) (by omega))
  go_enter Tryd.func103, Tryd.ntmps103
  go_wp2
  go_region_with (go_at_call 117; rw [hwr.out]; refine (HB.out _ ((Fw.refl N x w).alloc HK.out.n _).drew (HK.out.new _).drew).mono ?_; rintro e w1 ⟨rfl, hk1, hf1⟩)
  all_goals go_wp2
  all_goals go_end0
  all_goals exact ⟨rfl, hk1, (((Fw.refl N x w).alloc HK.out.n _).drew).trans hf1⟩

set_option maxHeartbeats 1000000 in
theorem layBlock_any (N x : Nat) (W : Int) (l : List UInt8) (col : Nat) (w : World) (o : Sc.Tok) (p f : Int) (ao : Option Addr) (n cap tail : Nat) (L : List UInt8) (C : Nat) (hk : Wk N x W l col w) (hc : col ≤ 200000) (H : BrkC N x W l col w o p f ao n cap 1 (col + 2) tail L C) :
    Calls Tryd.prog 99 #[.pointer (some ⟨x, 0, none⟩), .agg #[.int .i64 o.kind, .string ⟨o.text.toArray⟩, .int .i64 p, .bool o.behind, .slice ao n cap, .int .i64 f], .int .i64 tail] w fun r w' => r = .returned (.tuple #[]) ∧ Wk N x W L C w' ∧ Fw N x w w' := by
  obtain ⟨-, c3, hx⟩ := hk.cells
  have HB := hide H
  unfold BrkC at HB
  have HK := hide hk
  clear hk H
  generalize (⟨o.text.toArray⟩ : ByteArray) = tt at *
  have hcs : ((col + 2 : Nat) : Int) = (col : Int) + 2 := by omega
  rw [hcs] at HB
  clear hcs
  have hwr := hide (wrap_small ((col : Int) + 2) (by omega) (by omega))
  go_enter Tryd.func99, Tryd.ntmps99
  go_wp2
  go_region_with (go_at_call 117; rw [hwr.out]; refine (HB.out _ ((Fw.refl N x w).alloc HK.out.n _).drew (HK.out.new _).drew).mono ?_; rintro e w1 ⟨rfl, hk1, hf1⟩)
  all_goals go_wp2
  all_goals go_end0
  all_goals exact ⟨rfl, hk1, (((Fw.refl N x w).alloc HK.out.n _).drew).trans hf1⟩

set_option maxHeartbeats 1000000 in
theorem layForm_any (N x : Nat) (W : Int) (l : List UInt8) (col : Nat) (w : World) (o : Sc.Tok) (p f : Int) (ao : Option Addr) (es : List Sc.El) (cap tail : Nat) (L : List UInt8) (C : Nat) (hk : Wk N x W l col w) (hc : col ≤ 200000) (hv : RowV (Ne x) w es.length (.slice ao es.length cap) (ElsAt (Ne x) w es))
    (H : BrkC N x W l col w o p f ao es.length cap (if Sc.pl2 es then 2 else 1) (col + 2) tail L C) :
    Calls Tryd.prog 97 #[.pointer (some ⟨x, 0, none⟩), .agg #[.int .i64 o.kind, .string ⟨o.text.toArray⟩, .int .i64 p, .bool o.behind, .slice ao es.length cap, .int .i64 f], .int .i64 tail] w fun r w' => r = .returned (.tuple #[]) ∧ Wk N x W L C w' ∧ Fw N x w w' := by
  have hx : x < w.heap.size := hk.cells.2.2
  have HB := hide H
  have HS := hide (fun w' (hf : Fw N x w w') => second_any o p f (.slice ao es.length cap) es (Ne x) w' (hv.fw hf (fun cs h => ElsAt.fw hf es cs h)))
  have HK := hide hk
  clear hk H
  unfold BrkC at HB
  generalize (⟨o.text.toArray⟩ : ByteArray) = tt at *
  have hcs : ((col + 2 : Nat) : Int) = (col : Int) + 2 := by omega
  rw [hcs] at HB
  clear hcs
  have hwr := hide (wrap_small ((col : Int) + 2) (by omega) (by omega))
  cases hp : Sc.pl2 es with
  | true =>
    rw [hp] at HB HS
    simp only [if_true] at HB
    go_enter Tryd.func97, Tryd.ntmps97
    go_wp2_with (first
      | (go_at_call 116; refine (HS.out _ ((Fw.refl N x w).alloc HK.out.n _)).mono ?_; rintro e w1 ⟨rfl, hb1⟩; have HK1 := hide ((HK.out.new _).of hb1); have HF1 := hide (((Fw.refl N x w).alloc HK.out.n _).trans (Fw.of hb1 (HK.out.new _).n)); have HB1 := hide ((SixB.new w _ _ _ _ _ _).be hb1); obtain ⟨hl1, c0, c1, c2, c3, c4, c5, -, -, -, -, -, -⟩ := HB1.out.at; obtain ⟨-, d3, hx1⟩ := HK1.out.cells; clear hb1)
      | fail)
    go_region_with (go_at_call 117; rw [hwr.out]; refine (HB.out _ HF1.out.drew HK1.out.drew).mono ?_; rintro e w2 ⟨rfl, hk2, hf2⟩)
    all_goals go_wp2
    all_goals go_end0
    all_goals exact ⟨rfl, hk2, HF1.out.drew.trans hf2⟩
  | false =>
    rw [hp] at HB HS
    simp only [Bool.false_eq_true, if_false] at HB
    go_enter Tryd.func97, Tryd.ntmps97
    go_wp2_with (first
      | (go_at_call 116; refine (HS.out _ ((Fw.refl N x w).alloc HK.out.n _)).mono ?_; rintro e w1 ⟨rfl, hb1⟩; have HK1 := hide ((HK.out.new _).of hb1); have HF1 := hide (((Fw.refl N x w).alloc HK.out.n _).trans (Fw.of hb1 (HK.out.new _).n)); have HB1 := hide ((SixB.new w _ _ _ _ _ _).be hb1); obtain ⟨hl1, c0, c1, c2, c3, c4, c5, -, -, -, -, -, -⟩ := HB1.out.at; obtain ⟨-, d3, hx1⟩ := HK1.out.cells; clear hb1)
      | fail)
    go_region_with (go_at_call 117; rw [hwr.out]; refine (HB.out _ HF1.out.drew HK1.out.drew).mono ?_; rintro e w2 ⟨rfl, hk2, hf2⟩)
    all_goals go_wp2
    all_goals go_end0
    all_goals exact ⟨rfl, hk2, HF1.out.drew.trans hf2⟩

set_option maxHeartbeats 1000000 in
theorem layCall_any (N x : Nat) (W : Int) (l : List UInt8) (col : Nat) (w : World) (o : Sc.Tok) (p f : Int) (ao : Option Addr) (e0 : Sc.El) (es : List Sc.El) (cap tail : Nat) (L : List UInt8) (C : Nat) (hk : Wk N x W l col w) (hc : col ≤ 200000) (hol : o.text.length ≤ 4096) (hel : e0.first.text.length ≤ 4096) (hv : RowV (Ne x) w (e0 :: es).length (.slice ao (e0 :: es).length cap) (ElsAt (Ne x) w (e0 :: es)))
    (H : BrkC N x W l col w o p f ao (e0 :: es).length cap 2 (col + (o.text.length + e0.first.text.length + 1)) tail L C) :
    Calls Tryd.prog 101 #[.pointer (some ⟨x, 0, none⟩), .agg #[.int .i64 o.kind, .string ⟨o.text.toArray⟩, .int .i64 p, .bool o.behind, .slice ao (e0 :: es).length cap, .int .i64 f], .int .i64 tail] w fun r w' => r = .returned (.tuple #[]) ∧ Wk N x W L C w' ∧ Fw N x w w' := by
  obtain ⟨-, c3, hx⟩ := hk.cells
  obtain ⟨g, cap', pp, vo, vn, vc, e1, -, hg, hcp, -, d0, d1, d2, d3, d4, d5⟩ := hv.cells 0 (by simp)
  injection e1 with e1 e2 e3
  subst e1 e3
  have HB := hide H
  unfold BrkC at HB
  have HK := hide hk
  clear hk H e2 hv d0 d2 d3 d4 d5
  have hcs : ((col + (o.text.length + e0.first.text.length + 1) : Nat) : Int) = (col : Int) + o.text.length + e0.first.text.length + 1 := by omega
  rw [hcs] at HB
  clear hcs
  have hsz := wbsize o.text
  have hsz2 := wbsize e0.first.text
  rw [← hsz, ← hsz2] at HB
  rw [← hsz] at hol
  rw [← hsz2] at hel
  clear hsz hsz2
  generalize (⟨o.text.toArray⟩ : ByteArray) = tt at *
  have d1' : w.cell? ⟨g, 1, none⟩ = some (.string ⟨e0.first.text.toArray⟩) := d1
  clear d1
  generalize (⟨e0.first.text.toArray⟩ : ByteArray) = t0 at *
  generalize hln : (e0 :: es).length = n at *
  have hn : 0 < n := by rw [← hln]; simp
  clear hln
  go_enter Tryd.func101, Tryd.ntmps101
  go_wp2
  go_quiet (fail)
  go_wp2_with (go_at_call 117; refine (HB.out _ (((Fw.refl N x w).alloc HK.out.n _).drewN _) ((HK.out.new _).drewN _)).mono ?_; rintro e w1 ⟨rfl, hk1, hf1⟩)
  go_end0
  exact ⟨rfl, hk1, (((Fw.refl N x w).alloc HK.out.n _).drewN _).trans hf1⟩
end Go.Proofs.YtigdfhcmhidhbaaDoor
