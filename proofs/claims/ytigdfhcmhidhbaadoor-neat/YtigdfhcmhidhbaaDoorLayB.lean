/- Walks: the program's writer: put, newLine. -/
import Derived.Test.YtigdfhcmhidhbaaDoorLayA
import Derived.Test.YtigdfhcmhidhbaaDoorShelf
import Derived.Test.YtigdfhcmhidhbaaDoorPlainX
namespace Go.Proofs.YtigdfhcmhidhbaaDoor
open Go.RowKit

/-- The writer x holds the text l, and stands at the column c. -/
def Wr (N x : Nat) (W : Int) (l : List UInt8) (c : Nat) (w : World) : Prop := IsWr N x W (Lib.byteCells l) c w
theorem Wr.fr {N x : Nat} {W : Int} {l : List UInt8} {c : Nat} {w w' : World} (h : Wr N x W l c w) (hb : Below w.heap.size w w') : Wr N x W l c w' := IsWr.fr h hb

theorem xB : Go.Proofs.Builder.Extra Tryd.prog Tryd.lays105_ren where
  sizeBuilder := by kernel_rfl
  liesBuilder := by kernel_rfl
  t5 := Tryd.underlying5
  a5 := Tryd.isAgg5
  z5 := Tryd.sizeOf5
  v5 := Tryd.zeroValue5
  infoByte := by kernel_rfl
  cellsByte := by kernel_rfl
  sizeByte := by kernel_rfl
  neB5 := by decide

theorem repeat_sp (c : Nat) : Lib.repeatL [32] c = List.replicate c 32 := by
  induction c with
  | zero => rfl
  | succ c ih => rw [List.replicate_succ, ← ih]; simp [Lib.repeatL]

theorem spaces_any (c : Nat) (w : World) (hc : c ≤ 1000000) : Calls Tryd.prog 48 #[.string ⟨#[32]⟩, .int .i64 c] w fun e w' => e = .returned (.string ⟨(List.replicate c 32).toArray⟩) ∧ Below w.heap.size w w' := by
  have h := Any.strings_Repeat Tryd.lays105 xB ⟨#[32]⟩ c w (by omega) (by show 1 * c ≤ _; omega)
  rw [show (⟨#[32]⟩ : ByteArray).data.toList = [32] from rfl, repeat_sp] at h
  exact h

theorem wbsize (l : List UInt8) : (⟨l.toArray⟩ : ByteArray).size = l.length := by show l.toArray.size = _; simp

set_option maxHeartbeats 1000000 in
theorem put_any (N x : Nat) (W : Int) (l t : List UInt8) (c : Nat) (w : World) (h : Wr N x W l c w) (hN : N ≤ w.heap.size) (hl : l.length + t.length ≤ 100000000000) (hc : c + t.length ≤ 100000000000) :
    Calls Tryd.prog 43 #[.pointer (some ⟨x, 0, none⟩), .string ⟨t.toArray⟩] w fun e w' => e = .returned (.tuple #[]) ∧ Wr N x W (l ++ t) (c + t.length) w' ∧ Fw N x w w' := by
  have HW := write_any N x W (Lib.byteCells l) c ⟨t.toArray⟩ w h hN (by rw [Lib.byteCells_length, wbsize]; omega)
  have hsz := hide (wbsize t)
  rw [← hsz.out] at hc ⊢
  have hbt := hide (show Lib.strCells ⟨t.toArray⟩ = Lib.byteCells t from rfl)
  generalize (⟨t.toArray⟩ : ByteArray) = bt at *
  go_enter Tryd.func43, Tryd.ntmps43
  go_wp2_with (go_at_call 47; refine HW.mono ?_; rintro e w1 ⟨rfl, h1, hb1⟩; have h1' : IsWr N x W (Lib.byteCells l ++ Lib.strCells bt) c w1 := Or.inr h1; obtain ⟨c2, c3, hlt, hfz⟩ := h1'.cells; have HS := hide (h1'.setCol (c + bt.size)); clear h1 h1')
  go_end0
  have hs := HS.out
  rw [hbt.out, ← Lib.byteCells_append] at hs
  exact ⟨rfl, by unfold Wr; exact_mod_cast hs, hb1.set _ _ _⟩

set_option maxHeartbeats 1000000 in
theorem newLine_any (N x : Nat) (W : Int) (l : List UInt8) (c0 c : Nat) (w : World) (h : Wr N x W l c0 w) (hN : N ≤ w.heap.size) (hl : l.length + 1 + c ≤ 100000000000) (hc : c ≤ 1000000) :
    Calls Tryd.prog 32 #[.pointer (some ⟨x, 0, none⟩), .int .i64 c] w fun e w' => e = .returned (.tuple #[]) ∧ Wr N x W (l ++ Sc.nl c) c w' ∧ Fw N x w w' := by
  have HW := write_any N x W (Lib.byteCells l) c0 ⟨#[10]⟩ w h hN (by rw [Lib.byteCells_length]; show _ + 1 ≤ _; omega)
  have HR := hide (fun w' => spaces_any c w' hc)
  have HP := hide (fun w' (hh : Wr N x W (l ++ [10]) 0 w') (hN' : N ≤ w'.heap.size) => put_any N x W (l ++ [10]) (List.replicate c 32) 0 w' hh hN' (by simp; omega) (by simp; omega))
  generalize hsp : (⟨(List.replicate c 32).toArray⟩ : ByteArray) = sp at *
  go_enter Tryd.func32, Tryd.ntmps32
  go_wp2_with (first
    | (go_at_call 47; refine HW.mono ?_; rintro e w1 ⟨rfl, h1, hb1⟩; have h1' : IsWr N x W (Lib.byteCells l ++ Lib.strCells ⟨#[10]⟩) c0 w1 := Or.inr h1; obtain ⟨c2, c3, hlt, hfz⟩ := h1'.cells; have HS := hide (h1'.setCol 0); have HF := hide (hb1.set 3 none (.int .i64 0)); clear h1 h1' hb1)
    | (go_at_call 48; refine (HR.out _).mono ?_; rintro e w2 ⟨rfl, hb2⟩; have HN2 := hide (Nat.le_trans hN (Nat.le_trans HF.out.fr.size hb2.size)); have HS2 := hide (HS.out.fr hb2); have HF2 := hide (HF.out.trans (Fw.of hb2 (Nat.le_trans hN HF.out.fr.size))); clear hb2)
    | (go_at_call 43; refine (HP.out _ (show Wr N x W (l ++ [10]) 0 _ from (by unfold Wr; rw [Lib.byteCells_append]; exact HS2.out)) HN2.out).mono ?_; rintro e w3 ⟨rfl, h3, hb3⟩))
  go_end0
  refine ⟨rfl, ?_, HF2.out.trans hb3⟩
  have e1 : l ++ [10] ++ List.replicate c 32 = l ++ Sc.nl c := by simp [Sc.nl]
  rw [e1, List.length_replicate, Nat.zero_add] at h3
  exact h3

set_option maxHeartbeats 2000000 in
set_option maxRecDepth 100000 in
theorem string_any (N x : Nat) (W : Int) (l : List UInt8) (c : Nat) (w : World) (h : Wr N x W l c w) (h0 : l ≠ []) :
    Calls Tryd.prog 33 #[.pointer (some ⟨x, 0, none⟩)] w fun e w' => e = .returned (.string ⟨l.toArray⟩) ∧ Below N w w' := by
  obtain ⟨p, v, hbk, hown, hne⟩ := h.any
  have hl0 : l.length ≠ 0 := by simpa using h0
  rw [Lib.byteCells_length] at hown
  obtain ⟨g, cap, cur, rfl, hbg, hg, hnc, hcm, hcs, htake⟩ : ∃ g cap cur, v = .slice (some ⟨g, 0, none⟩) l.length cap ∧ N ≤ g ∧ w.heap[g]? = some (.cells cur 5 (0, 0)) ∧ l.length ≤ cap ∧ cap ≤ maxLen ∧ cur.size = cap * 1 ∧ cur.toList.take (l.length * 1) = Lib.byteCells l := by
    rcases hown.2 with ⟨_, hz⟩ | ⟨g, cap, cur, hv, r⟩
    · exact absurd hz hl0
    · exact ⟨g, cap, cur, hv, r⟩
  have c1 : w.drew.cell? ⟨x, 1, none⟩ = some (.slice (some ⟨g, 0, none⟩) l.length cap) := by
    have : w.drew.heap[x]? = some (.cells #[p, .slice (some ⟨g, 0, none⟩) l.length cap, .int .i64 W, .int .i64 c] 70 (0, 0)) := hbk
    rw [Lib.cell_of_heap this]; rfl
  have hSD : (Builtin.unsafeSliceData_ #[46] 97 #[.slice (some ⟨g, 0, none⟩) l.length cap]).run Tryd.prog w.drew = .ok (.pointer (some ⟨g, 0, none⟩)) w.drew :=
    Lib.run_unsafeSliceData_row _ _ _ _ _ _ (by omega)
  have hUS : (Builtin.unsafeString_ #[97, 3] 9 #[.pointer (some ⟨g, 0, none⟩), .int .i64 l.length]).run Tryd.prog w.drew = .ok (.string ⟨l.toArray⟩) (w.drew.freeze ⟨g, 0, none⟩ l.length) := by
    refine Lib.run_unsafeString_row w.drew 97 3 9 5 (by kernel_rfl) xB.cellsByte g cur.size (by have hg' : w.drew.heap[g]? = some (.cells cur 5 (0, 0)) := hg; simp [World.shape?, hg']) l h0 (by omega) (by unfold maxLen at hcm; omega) ?_
    intro j x hx
    have := hown.cells (g := g) rfl j (.int .u8 x.toNat) (by simp [Lib.byteCells, hx])
    exact this
  go_enter Tryd.func33, Tryd.ntmps33
  go_wp2
  go_region
  all_goals (go_wp2; go_ret; exact ⟨rfl, Lib.below_freeze (Below.drew (Below.refl N w)) (p := ⟨g, 0, none⟩) hbg _⟩)

end Go.Proofs.YtigdfhcmhidhbaaDoor
