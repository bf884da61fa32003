/- Walks: looks. -/
import Derived.Test.YtigdfhcmhidhbaaDoorWalkW
namespace Go.Proofs.YtigdfhcmhidhbaaDoor
open Go.RowKit

theorem Fill.at {w : World} {ao : Option Addr} {n cap K : Nat} (h : Fill w (.slice ao n cap) K) (i : Nat) (hi : i < n) : ∃ g, ao = some ⟨g, 0, none⟩ ∧ g < w.heap.size ∧
    w.cell? ⟨g, i * 4, none⟩ = some (.int .i64 (-1 - (K : Int))) ∧ w.cell? ⟨g, i * 4 + 1, none⟩ = some (.string ⟨#[]⟩) ∧ w.cell? ⟨g, i * 4 + 2, none⟩ = some (.int .i64 0) ∧ w.cell? ⟨g, i * 4 + 3, none⟩ = some (.bool false) := by
  obtain ⟨ao', n', cap', e, _, h2⟩ := h
  injection e with e1 e2 e3
  subst e1 e2 e3
  rcases h2 with ⟨_, h0⟩ | ⟨g, rfl, ⟨cur, h3⟩, h4⟩
  · omega
  · have hg : (marks n K)[i]'(by rw [marks_len]; exact hi) = mkTok K := by simp [marks]
    have key : ∀ j, j < 4 → w.cell? ⟨g, i * 4 + j, none⟩ = (mkTok K).cells[j]? := by
      intro j hj
      rw [h4 (i * 4 + j) (by omega), Sc.tcells_get _ _ _ (by rw [marks_len]; exact hi) hj, hg]
    exact ⟨g, rfl, lt_of_heap h3, key 0 (by omega), key 1 (by omega), key 2 (by omega), key 3 (by omega)⟩
theorem Fill.shape {w : World} {lv : Value} {K : Nat} (h : Fill w lv K) : ∃ ao n cap, lv = .slice ao n cap ∧ n ≤ 4200 := by
  obtain ⟨ao, n, cap, e, h1, _⟩ := h
  exact ⟨ao, n, cap, e, h1⟩
theorem Bk.at {w : World} {B bk : Nat} {tso : Option Addr} {m tc : Nat} {es : List (Value × Nat)} (h : Bk w B bk (.slice tso m tc) es) (i : Nat) (hi : i < es.length) : ∃ g, tso = some ⟨g, 0, none⟩ ∧ g < w.heap.size ∧ es.length ≤ tc ∧
    w.cell? ⟨g, i * 2, none⟩ = some es[i].1 ∧ w.cell? ⟨g, i * 2 + 1, none⟩ = some (.int .i64 (es[i].2 : Int)) := by
  have ho := h.own
  rcases ho.2 with ⟨e, h0⟩ | ⟨g, cap, cur, e, _, h3, h4, _⟩
  · omega
  · injection e with e1 e2 e3
    subst e1 e2 e3
    have hc := fun j (hj : j < es.length * 2) => World.ownsRow.cellAt ho j hj
    have hg := ecells_get es i hi
    exact ⟨g, rfl, lt_of_heap h3, h4, (hc _ (by omega)).trans hg.1, (hc _ (by omega)).trans hg.2⟩

set_option maxRecDepth 20000 in
set_option maxHeartbeats 4000000 in
theorem looks_any (B bk : Nat) (tv : Value) (es : List (Value × Nat)) (w : World) (hbk : Bk w B bk tv es) (hes : es.length ≤ 20) :
    Calls Tryd.prog 14 #[.pointer (some ⟨bk, 0, none⟩)] w fun e w' => e = .returned (.bool true) ∧ Below w.heap.size w w' := by
  obtain ⟨tso, tc, htv⟩ := row_shape hbk.own
  subst htv
  have hblt := lt_of_heap hbk.block
  obtain ⟨b0, -, b1, b2⟩ := bk_cell hbk.block
  go_enter Tryd.func14, Tryd.ntmps14
  go_wp2
  go_loopw [3] (fun x wr => ∃ i : Nat, i ≤ es.length ∧ x = .int .i64 i ∧ Below w.heap.size w wr) (fun x _ => es.length - (intOf x).toNat)
  case atStart => exact ⟨0, by omega, rfl, Below.refl _ _⟩
  case round =>
    obtain ⟨i, h1, rfl, hbel⟩ := hrel
    have cc := fun (a : Addr) (ha : a.block < w.heap.size) => hbel.cell (p := a) ha
    have d0 := (cc ⟨bk, 0, none⟩ hblt).trans b0
    have d1 := (cc ⟨bk, 1, none⟩ hblt).trans b1
    have d2 := (cc ⟨bk, 2, none⟩ hblt).trans b2
    by_cases hil : i < es.length
    · obtain ⟨gt, hg1, hg2, hg3, e0, e1⟩ := hbk.at i hil
      subst hg1
      have f0 := (cc ⟨gt, i * 2, none⟩ hg2).trans e0
      have f1 := (cc ⟨gt, i * 2 + 1, none⟩ hg2).trans e1
      have hfil := hbk.fill es[i] (List.getElem_mem hil)
      have hfew := hbk.few es[i] (List.getElem_mem hil)
      obtain ⟨ao, n, cap, hlv, hn4⟩ := hfil.shape
      rw [hlv] at f0 hfil
      generalize es[i].2 = K at f1 hfil hfew
      have HF := hide hfil
      clear hfil hlv e0 e1 cc
      have hsz := hbel.size
      go_wp2
      go_loopw [5] (fun x ww => ∃ k : Nat, k ≤ n ∧ x = .int .i64 k ∧ Below w.heap.size w ww ∧ ww.cell? ⟨wr.heap.size, 0, none⟩ = some (.int .i64 (-1 - (K : Int))) ∧ ww.cell? ⟨wr.heap.size, 1, none⟩ = some (.string ⟨#[]⟩) ∧
        ww.cell? ⟨wr.heap.size, 2, none⟩ = some (.int .i64 0) ∧ ww.cell? ⟨wr.heap.size, 3, none⟩ = some (.bool false)) (fun x _ => n - (intOf x).toNat)
      case atStart => exact ⟨0, by omega, rfl, hbel.alloc hsz _, by simp, by simp, by simp, by simp⟩
      case round =>
        obtain ⟨k, k1, rfl, hb2, m0, m1, m2, m3⟩ := hrel
        have c2 := fun (a : Addr) (ha : a.block < w.heap.size) => hb2.cell (p := a) ha
        have x0 := (c2 ⟨bk, 0, none⟩ hblt).trans b0
        have x1 := (c2 ⟨gt, i * 2, none⟩ hg2).trans (((hbel.cell (p := ⟨gt, i * 2, none⟩) hg2).symm).trans f0)
        by_cases hkl : k < n
        · obtain ⟨g, hg4, hg5, y0, y1, y2, y3⟩ := HF.out.at k hkl
          subst hg4
          have z0 := (c2 ⟨g, k * 4, none⟩ hg5).trans y0
          have z1 := (c2 ⟨g, k * 4 + 1, none⟩ hg5).trans y1
          have z2 := (c2 ⟨g, k * 4 + 2, none⟩ hg5).trans y2
          have z3 := (c2 ⟨g, k * 4 + 3, none⟩ hg5).trans y3
          clear c2 y0 y1 y2 y3
          go_wp2
          go_quiet (fail)
          go_wp2
          go_roundw
          case rel => exact ⟨k + 1, by omega, by go_num, below_drewN hb2 _, m0, m1, m2, m3⟩
          case measure => simp [intOf]; omega
        · clear c2
          go_wp2
          go_roundw
          case rel => exact ⟨i + 1, by omega, by go_num, hb2⟩
          case measure => simp [intOf]; omega
    · clear cc
      go_wp2
      go_loopw [6] (fun x ww => x = .int .i64 0 ∧ Below w.heap.size w ww) (fun _ _ => 0)
      case atStart => exact ⟨rfl, hbel⟩
      case round =>
        obtain ⟨rfl, hb2⟩ := hrel
        have c2 := fun (a : Addr) (ha : a.block < w.heap.size) => hb2.cell (p := a) ha
        have x1 := (c2 ⟨bk, 1, none⟩ hblt).trans b1
        clear c2
        go_wp2
        go_loopw [9] (fun x ww => x = .int .i64 0 ∧ Below w.heap.size w ww) (fun _ _ => 0)
        case atStart => exact ⟨rfl, hb2⟩
        case round =>
          obtain ⟨rfl, hb3⟩ := hrel
          have c3 := fun (a : Addr) (ha : a.block < w.heap.size) => hb3.cell (p := a) ha
          have x2 := (c3 ⟨bk, 2, none⟩ hblt).trans b2
          clear c3
          go_wp2
          go_ret
          exact ⟨rfl, hb3⟩
end Go.Proofs.YtigdfhcmhidhbaaDoor
