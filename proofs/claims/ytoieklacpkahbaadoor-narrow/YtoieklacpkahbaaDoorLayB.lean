/- Walks: the program's writer: its builder. -/
/- Walks: the program's writer: put, newLine. -/
import Derived.Test.YtoieklacpkahbaaDoorRows
import Derived.WalkKit
import Derived.WalkSpells
import Derived.WalkLawsBesides
import Derived.Lib.Builder
import Derived.Lib.AppendStr
import Derived.Lib.UnsafeStr
import Derived.Lib.Walk
import Derived.Test.YtoieklacpkahbaaDoorShelf
import Derived.Test.YtoieklacpkahbaaDoorPlainZ
namespace Go.Proofs.YtoieklacpkahbaaDoor
open Go.RowKit

/-- All blocks below N but x are as they were. -/
structure Fr (N x : Nat) (w w' : World) : Prop where
  os : w'.os = w.os
  tape : w'.tape = w.tape
  output : w'.output = w.output
  size : w.heap.size ≤ w'.heap.size
  block : ∀ k, k < N → k ≠ x → w'.heap[k]? = w.heap[k]?
theorem Fr.refl (N x : Nat) (w : World) : Fr N x w w := ⟨rfl, rfl, rfl, Nat.le_refl _, fun _ _ _ => rfl⟩
theorem Fr.trans {N x : Nat} {a b c : World} (h : Fr N x a b) (k : Fr N x b c) : Fr N x a c :=
  ⟨k.os.trans h.os, k.tape.trans h.tape, k.output.trans h.output, Nat.le_trans h.size k.size, fun i hi hx => (k.block i hi hx).trans (h.block i hi hx)⟩
theorem Fr.of {N x : Nat} {w w' : World} (h : Below N w w') : Fr N x w w' := ⟨h.os, h.tape, h.output, h.size, fun k hk _ => h.block k hk⟩
theorem Fr.mono {N N' x : Nat} {w w' : World} (h : Fr N x w w') (hN : N' ≤ N) : Fr N' x w w' := ⟨h.os, h.tape, h.output, h.size, fun k hk hx => h.block k (by omega) hx⟩
theorem Fr.below {N x B : Nat} {w w' : World} (h : Fr N x w w') (hx : B ≤ x) (hB : B ≤ N) : Below B w w' := ⟨h.os, h.tape, h.output, h.size, fun k hk => h.block k (by omega) (by omega)⟩
theorem Fr.set {N x : Nat} {a w : World} (h : Fr N x a w) (o : Nat) (p : Option _) (u : Value) : Fr N x a (w.setCell ⟨x, o, p⟩ u) :=
  ⟨h.os, h.tape, h.output, by simpa [World.setCell] using h.size, fun k hk hx => (Below.heap_setCell w _ u k hx).trans (h.block k hk hx)⟩
theorem Fr.grown {N x : Nat} {a w w' : World} {row : Option Nat} (h : Fr N x a w) (hg : w.grownBy w' row) (hB : N ≤ w.heap.size) (hr : ∀ k, row = some k → N ≤ k) : Fr N x a w' :=
  ⟨hg.os.trans h.os, hg.tape.trans h.tape, hg.output.trans h.output, Nat.le_trans h.size hg.size, fun k hk hx => (hg.block k (by omega) (fun e => by have := hr k e.symm; omega)).trans (h.block k hk hx)⟩
theorem Fr.drew {N x : Nat} {a w : World} (h : Fr N x a w) : Fr N x a w.drew := ⟨h.os, h.tape, h.output, h.size, h.block⟩

/-- .. and whatever is no row of bytes is as it was, but for x. -/
structure Fw (N x : Nat) (w w' : World) : Prop where
  fr : Fr N x w w'
  keep : ∀ k cs T f, k ≠ x → w.heap[k]? = some (.cells cs T f) → T ≠ 5 → w'.heap[k]? = w.heap[k]?
theorem Fw.refl (N x : Nat) (w : World) : Fw N x w w := ⟨Fr.refl N x w, fun _ _ _ _ _ _ _ => rfl⟩
theorem Fw.trans {N x : Nat} {a b c : World} (h : Fw N x a b) (k : Fw N x b c) : Fw N x a c :=
  ⟨h.fr.trans k.fr, fun i cs T f hx hi hT => by
    have h1 := h.keep i cs T f hx hi hT
    exact (k.keep i cs T f hx (h1.trans hi) hT).trans h1⟩
theorem Fw.of {N x : Nat} {w w' : World} (h : Below w.heap.size w w') (hN : N ≤ w.heap.size) : Fw N x w w' :=
  ⟨Fr.of (h.mono hN), fun k _ _ _ _ hk _ => h.block k (Array.getElem?_eq_some_iff.1 hk).1⟩
theorem Fw.alloc {N x : Nat} {a w : World} (h : Fw N x a w) (hN : N ≤ w.heap.size) (o : Obj) : Fw N x a (w.alloc o) :=
  h.trans (Fw.of ((Below.refl _ _).alloc (Nat.le_refl _) _) hN)
theorem Fw.set {N x : Nat} {a w : World} (h : Fw N x a w) (o : Nat) (p : Option _) (u : Value) : Fw N x a (w.setCell ⟨x, o, p⟩ u) :=
  h.trans ⟨(Fr.refl _ _ _).set o p u, fun k _ _ _ hx _ _ => Below.heap_setCell w _ u k hx⟩
theorem Fw.grown {N x : Nat} {a w w' : World} {row : Option Nat} (h : Fw N x a w) (hg : w.grownBy w' row) (hB : N ≤ w.heap.size) (hr : ∀ k, row = some k → N ≤ k) (ht : ∀ k, row = some k → ∃ cs f, w.heap[k]? = some (.cells cs 5 f)) : Fw N x a w' :=
  h.trans ⟨(Fr.refl _ _ _).grown hg hB hr, fun k cs T f _ hk hT => hg.block k (Array.getElem?_eq_some_iff.1 hk).1 (fun e => by
    obtain ⟨cs', f', h'⟩ := ht k e.symm
    rw [hk] at h'
    simp only [Option.some.injEq, Obj.cells.injEq] at h'
    exact hT h'.2.1)⟩

/-- The writer x: what its builder holds, the width, the column. -/
def WrAt (N x : Nat) (p : Value) (W : Int) (bs : List Value) (col : Int) (w : World) : Prop :=
  ∃ v, w.heap[x]? = some (.cells #[p, v, .int .i64 W, .int .i64 col] 70 (0, 0)) ∧ w.ownsRow N 5 1 v bs.length bs ∧ v.ownBlock ≠ some x
def IsWr (N x : Nat) (W : Int) (bs : List Value) (col : Int) (w : World) : Prop := WrAt N x (.pointer none) W bs col w ∨ WrAt N x (.pointer (some ⟨x, 0, none⟩)) W bs col w

theorem WrAt.fr {N x : Nat} {p : Value} {W : Int} {bs : List Value} {col : Int} {w w' : World} (h : WrAt N x p W bs col w) (hb : Below w.heap.size w w') : WrAt N x p W bs col w' := by
  obtain ⟨v, hk, ho, hn⟩ := h
  have hlt : x < w.heap.size := (Array.getElem?_eq_some_iff.1 hk).1
  refine ⟨v, (hb.block x hlt).trans hk, ?_, hn⟩
  refine ⟨ho.1, ?_⟩
  rcases ho.2 with hn | ⟨g, cap, cur, rfl, hB, hgg, rest⟩
  · exact .inl hn
  · refine .inr ⟨g, cap, cur, rfl, hB, ?_, rest⟩
    rw [hb.block g (Array.getElem?_eq_some_iff.1 hgg).1]
    exact hgg
theorem IsWr.fr {N x : Nat} {W : Int} {bs : List Value} {col : Int} {w w' : World} (h : IsWr N x W bs col w) (hb : Below w.heap.size w w') : IsWr N x W bs col w' := h.imp (·.fr hb) (·.fr hb)
theorem IsWr.any {N x : Nat} {W : Int} {bs : List Value} {col : Int} {w : World} (h : IsWr N x W bs col w) : ∃ p, WrAt N x p W bs col w := by
  rcases h with h | h
  · exact ⟨_, h⟩
  · exact ⟨_, h⟩
theorem IsWr.cells {N x : Nat} {W : Int} {bs : List Value} {col : Int} {w : World} (h : IsWr N x W bs col w) : w.cell? ⟨x, 2, none⟩ = some (.int .i64 W) ∧ w.cell? ⟨x, 3, none⟩ = some (.int .i64 col) ∧ x < w.heap.size ∧ w.frozen? ⟨x, 3, none⟩ = false := by
  obtain ⟨p, v, hk, _⟩ := h.any
  exact ⟨by rw [Lib.cell_of_heap hk]; rfl, by rw [Lib.cell_of_heap hk]; rfl, (Array.getElem?_eq_some_iff.1 hk).1, Lib.frozen_of_heap hk 3⟩
theorem WrAt.setCol {N x : Nat} {p : Value} {W : Int} {bs : List Value} {col : Int} {w : World} (h : WrAt N x p W bs col w) (c : Int) : WrAt N x p W bs c (w.setCell ⟨x, 3, none⟩ (.int .i64 c)) := by
  obtain ⟨v, hk, ho, hn⟩ := h
  refine ⟨v, ?_, ?_, hn⟩
  · simp [World.setCell, Array.getElem?_modify, hk]
  · exact ho.kept (row := some x) ⟨rfl, rfl, rfl, by simp [World.setCell], fun k _ hk => Below.heap_setCell _ _ _ _ (fun e => hk (by simp [e]))⟩ (Or.inr hn)
theorem IsWr.setCol {N x : Nat} {W : Int} {bs : List Value} {col : Int} {w : World} (h : IsWr N x W bs col w) (c : Int) : IsWr N x W bs c (w.setCell ⟨x, 3, none⟩ (.int .i64 c)) := h.imp (·.setCol c) (·.setCol c)

theorem tB : Tryd.prog.underlying 66 = some (.pointer 68) := by kernel_rfl
theorem tU : Tryd.prog.underlying 125 = some .unsafePointer := by kernel_rfl
theorem iB : (Tryd.prog.info? 68).map (·.size) = some 2 := by kernel_rfl
theorem lB : liesAt Tryd.prog Tryd.prog.depth 70 (4 / Tryd.prog.cellsOf 70) 0 68 1 = true := by kernel_rfl
theorem tS : Tryd.prog.underlying 46 = some (.slice 5) := by kernel_rfl
theorem tT : Tryd.prog.underlying 9 = some .string := by kernel_rfl
theorem iY : (Tryd.prog.info? 5).map (fun i => (i.zero, i.size, i.bytes)) = some (some (.int .u8 0), 1, 1) := by kernel_rfl

set_option maxHeartbeats 1000000 in
set_option maxRecDepth 100000 in
theorem check_used (x : Nat) (w : World) (h0 : w.cell? ⟨x, 0, none⟩ = some (.pointer (some ⟨x, 0, none⟩))) :
    Calls Tryd.prog 63 #[.pointer (some ⟨x, 0, none⟩)] w fun e w' => e = .returned (.tuple #[]) ∧ w' = w := by
  obtain ⟨j, hj, _⟩ := Option.map_eq_some_iff.1 iB
  go_enter Tryd.func63, Tryd.ntmps63
  go_wp2
  rw [Lib.run_neq_ptr_same w _ tB hj]
  go_wp2
  go_end0
  exact ⟨rfl, rfl⟩

set_option maxHeartbeats 1000000 in
set_option maxRecDepth 100000 in
theorem check_fresh (x : Nat) (w : World) (h0 : w.cell? ⟨x, 0, none⟩ = some (.pointer none)) (hsh : w.shape? x = some (70, 4)) (hfz : w.frozen? ⟨x, 0, none⟩ = false) :
    Calls Tryd.prog 63 #[.pointer (some ⟨x, 0, none⟩)] w fun e w' => e = .returned (.tuple #[]) ∧ w' = w.setCell ⟨x, 0, none⟩ (.pointer (some ⟨x, 0, none⟩)) := by
  obtain ⟨j, hj, hjs⟩ := Option.map_eq_some_iff.1 iB
  go_enter Tryd.func63, Tryd.ntmps63
  go_wp2
  rw [Lib.run_to_unsafe w ⟨x, 0, none⟩ tB tU hj (by rw [hjs]; decide) hsh (Nat.zero_lt_succ 3)]
  simp only [Result.andThen]
  rw [Oper.upon_value]
  go_wp2
  rw [run_callFunc_extern Tryd.func81 (by kernel_rfl) (by kernel_rfl) (by kernel_rfl) (e := Extern.AbiNoEscape.same) (by kernel_rfl)]
  rw [Lib.run_noEscape]
  simp only [Result.andThen]
  rw [Oper.upon_value]
  go_wp2
  rw [Lib.run_from_unsafe w ⟨x, 0, none⟩ tU tB hj hsh lB]
  simp only [Result.andThen]
  rw [Oper.upon_value]
  go_wp2
  go_end0
  exact ⟨rfl, rfl⟩

theorem check_any (N x : Nat) (W : Int) (bs : List Value) (col : Int) (w : World) (h : IsWr N x W bs col w) :
    Calls Tryd.prog 63 #[.pointer (some ⟨x, 0, none⟩)] w fun e w' => e = .returned (.tuple #[]) ∧ WrAt N x (.pointer (some ⟨x, 0, none⟩)) W bs col w' ∧ Fw N x w w' ∧ w'.heap.size = w.heap.size := by
  rcases h with ⟨v, hk, ho, hn⟩ | h
  · refine (check_fresh x w (by rw [Lib.cell_of_heap hk]; rfl) (by simp [World.shape?, hk]) (Lib.frozen_of_heap hk 0)).mono ?_
    rintro e w' ⟨rfl, rfl⟩
    refine ⟨rfl, ⟨v, ?_, ?_, hn⟩, (Fw.refl _ _ _).set _ _ _, by simp [World.setCell]⟩
    · simp [World.setCell, Array.getElem?_modify, hk]
    · exact ho.kept (row := some x) ⟨rfl, rfl, rfl, by simp [World.setCell], fun k _ hk => Below.heap_setCell _ _ _ _ (fun e => hk (by simp [e]))⟩ (Or.inr hn)
  · have h' := h
    obtain ⟨v, hk, _⟩ := h
    refine (check_used x w (by rw [Lib.cell_of_heap hk]; rfl)).mono ?_
    rintro e w' ⟨rfl, rfl⟩
    exact ⟨rfl, h', Fw.refl _ _ _, rfl⟩

set_option maxHeartbeats 2000000 in
set_option maxRecDepth 100000 in
theorem write_any (N x : Nat) (W : Int) (bs : List Value) (col : Int) (s : ByteArray) (w : World) (h : IsWr N x W bs col w) (hN : N ≤ w.heap.size) (hlen : bs.length + s.size ≤ 140737488355328) :
    Calls Tryd.prog 47 #[.pointer (some ⟨x, 0, none⟩), .string s] w fun e w' => e = .returned (.tuple #[.int .i64 s.size, .nilIface]) ∧ WrAt N x (.pointer (some ⟨x, 0, none⟩)) W (bs ++ Lib.strCells s) col w' ∧ Fw N x w w' := by
  obtain ⟨i0, hi, hz0, hz1, hz2⟩ := info_parts iY
  go_enter Tryd.func47, Tryd.ntmps47
  go_wp2_with (go_at_call 63; refine (check_any N x W bs col _ h).mono ?_)
  rintro e w1 ⟨rfl, h1, hb1, hs1⟩
  obtain ⟨v, hbk, hown, hne⟩ := h1
  have c0 : w1.cell? ⟨x, 0, none⟩ = some (.pointer (some ⟨x, 0, none⟩)) := by rw [Lib.cell_of_heap hbk]; rfl
  have c1 : w1.cell? ⟨x, 1, none⟩ = some v := by rw [Lib.cell_of_heap hbk]; rfl
  go_wp2_with (at_builtin; refine Lib.wpList_append_own_string _ rfl _ _ 46 9 rfl N 5 i0 tS tT hi hz0 hz1 hz2 _ _ _ rfl hown s rfl ?c3 ?c4 ?c5 ?_)
  case c3 => unfold maxLen; omega
  case c4 => omega
  case c5 => omega
  intro v' w2 hown' hgrow _
  have hlt : x < w1.heap.size := (Array.getElem?_eq_some_iff.1 hbk).1
  have hb2 : w2.heap[x]? = some (.cells #[.pointer (some ⟨x, 0, none⟩), v, .int .i64 W, .int .i64 col] 70 (0, 0)) := by
    rw [hgrow.block x hlt (fun e => hne e.symm)]
    exact hbk
  have d0 : w2.cell? ⟨x, 0, none⟩ = some (.pointer (some ⟨x, 0, none⟩)) := by rw [Lib.cell_of_heap hb2]; rfl
  have d1 : w2.cell? ⟨x, 1, none⟩ = some v := by rw [Lib.cell_of_heap hb2]; rfl
  have f1 : w2.frozen? ⟨x, 1, none⟩ = false := Lib.frozen_of_heap hb2 1
  obtain ⟨ao, n', cap, rfl⟩ : ∃ ao n' cap, v' = .slice ao n' cap := by
    rcases hown'.2 with ⟨hv, _⟩ | ⟨g, cap, cur, hv, _⟩
    · exact ⟨_, _, _, hv⟩
    · exact ⟨_, _, _, hv⟩
  go_wp2
  go_ret2
  have hne' : (Value.slice ao n' cap).ownBlock ≠ some x := Lib.ownBlock_ne hown' hb2 (by decide)
  refine ⟨rfl, ⟨_, ?_, ?_, hne'⟩, ?_⟩
  · simp [World.setCell, Array.getElem?_modify, hb2]
  · have hl : (bs ++ Lib.strCells s).length = bs.length + s.size := by rw [List.length_append, Lib.strCells_length]
    rw [hl]
    exact hown'.kept (row := some x) ⟨rfl, rfl, rfl, by simp [World.setCell], fun k _ hk => Below.heap_setCell _ _ _ _ (fun e => hk (by simp [e]))⟩ (Or.inr hne')
  · refine (hb1.grown hgrow (by omega) (fun k hk => (hown.lt k hk).1) (fun k hk => ?_)).set _ _ _
    rcases hown.2 with ⟨rfl, _⟩ | ⟨g, cap', cur, rfl, _, hg, _⟩
    · simp [Value.ownBlock] at hk
    · obtain rfl : g = k := by simpa [Value.ownBlock] using hk
      exact ⟨cur, _, hg⟩
end Go.Proofs.YtoieklacpkahbaaDoor
namespace Go.Proofs.YtoieklacpkahbaaDoor
open Go.RowKit

/-- The writer x holds the text l, and stands at the column c. -/
def Wr (N x : Nat) (W : Int) (l : List UInt8) (c : Nat) (w : World) : Prop := IsWr N x W (Lib.byteCells l) c w
theorem Wr.fr {N x : Nat} {W : Int} {l : List UInt8} {c : Nat} {w w' : World} (h : Wr N x W l c w) (hb : Below w.heap.size w w') : Wr N x W l c w' := IsWr.fr h hb

theorem xB : Go.Proofs.Builder.Extra Tryd.prog Tryd.lays105_ren where
  sizeBuilder := by kernel_rfl
  liesBuilder := by kernel_rfl
  t5 := Tryd.underlying5
  a5 := Tryd.isAgg5
  z5 := Tryd.sizeOf5
  v5 := Tryd.zeroValue5
  infoByte := by kernel_rfl
  cellsByte := by kernel_rfl
  sizeByte := by kernel_rfl
  neB5 := by decide

theorem repeat_sp (c : Nat) : Lib.repeatL [32] c = List.replicate c 32 := by
  induction c with
  | zero => rfl
  | succ c ih => rw [List.replicate_succ, ← ih]; simp [Lib.repeatL]

theorem spaces_any (c : Nat) (w : World) (hc : c ≤ 1000000) : Calls Tryd.prog 48 #[.string ⟨#[32]⟩, .int .i64 c] w fun e w' => e = .returned (.string ⟨(List.replicate c 32).toArray⟩) ∧ Below w.heap.size w w' := by
  have h := Any.strings_Repeat Tryd.lays105 xB ⟨#[32]⟩ c w (by omega) (by show 1 * c ≤ _; omega)
  rw [show (⟨#[32]⟩ : ByteArray).data.toList = [32] from rfl, repeat_sp] at h
  exact h

theorem wbsize (l : List UInt8) : (⟨l.toArray⟩ : ByteArray).size = l.length := by show l.toArray.size = _; simp

set_option maxHeartbeats 1000000 in
theorem put_any (N x : Nat) (W : Int) (l t : List UInt8) (c : Nat) (w : World) (h : Wr N x W l c w) (hN : N ≤ w.heap.size) (hl : l.length + t.length ≤ 100000000000) (hc : c + t.length ≤ 100000000000) :
    Calls Tryd.prog 43 #[.pointer (some ⟨x, 0, none⟩), .string ⟨t.toArray⟩] w fun e w' => e = .returned (.tuple #[]) ∧ Wr N x W (l ++ t) (c + t.length) w' ∧ Fw N x w w' := by
  have HW := write_any N x W (Lib.byteCells l) c ⟨t.toArray⟩ w h hN (by rw [Lib.byteCells_length, wbsize]; omega)
  have hsz := hide (wbsize t)
  rw [← hsz.out] at hc ⊢
  have hbt := hide (show Lib.strCells ⟨t.toArray⟩ = Lib.byteCells t from rfl)
  generalize (⟨t.toArray⟩ : ByteArray) = bt at *
  go_enter Tryd.func43, Tryd.ntmps43
  go_wp2_with (go_at_call 47; refine HW.mono ?_; rintro e w1 ⟨rfl, h1, hb1⟩; have h1' : IsWr N x W (Lib.byteCells l ++ Lib.strCells bt) c w1 := Or.inr h1; obtain ⟨c2, c3, hlt, hfz⟩ := h1'.cells; have HS := hide (h1'.setCol (c + bt.size)); clear h1 h1')
  go_end0
  have hs := HS.out
  rw [hbt.out, ← Lib.byteCells_append] at hs
  exact ⟨rfl, by unfold Wr; exact_mod_cast hs, hb1.set _ _ _⟩

set_option maxHeartbeats 1000000 in
theorem newLine_any (N x : Nat) (W : Int) (l : List UInt8) (c0 c : Nat) (w : World) (h : Wr N x W l c0 w) (hN : N ≤ w.heap.size) (hl : l.length + 1 + c ≤ 100000000000) (hc : c ≤ 1000000) :
    Calls Tryd.prog 32 #[.pointer (some ⟨x, 0, none⟩), .int .i64 c] w fun e w' => e = .returned (.tuple #[]) ∧ Wr N x W (l ++ Sc.nl c) c w' ∧ Fw N x w w' := by
  have HW := write_any N x W (Lib.byteCells l) c0 ⟨#[10]⟩ w h hN (by rw [Lib.byteCells_length]; show _ + 1 ≤ _; omega)
  have HR := hide (fun w' => spaces_any c w' hc)
  have HP := hide (fun w' (hh : Wr N x W (l ++ [10]) 0 w') (hN' : N ≤ w'.heap.size) => put_any N x W (l ++ [10]) (List.replicate c 32) 0 w' hh hN' (by simp; omega) (by simp; omega))
  generalize hsp : (⟨(List.replicate c 32).toArray⟩ : ByteArray) = sp at *
  go_enter Tryd.func32, Tryd.ntmps32
  go_wp2_with (first
    | (go_at_call 47; refine HW.mono ?_; rintro e w1 ⟨rfl, h1, hb1⟩; have h1' : IsWr N x W (Lib.byteCells l ++ Lib.strCells ⟨#[10]⟩) c0 w1 := Or.inr h1; obtain ⟨c2, c3, hlt, hfz⟩ := h1'.cells; have HS := hide (h1'.setCol 0); have HF := hide (hb1.set 3 none (.int .i64 0)); clear h1 h1' hb1)
    | (go_at_call 48; refine (HR.out _).mono ?_; rintro e w2 ⟨rfl, hb2⟩; have HN2 := hide (Nat.le_trans hN (Nat.le_trans HF.out.fr.size hb2.size)); have HS2 := hide (HS.out.fr hb2); have HF2 := hide (HF.out.trans (Fw.of hb2 (Nat.le_trans hN HF.out.fr.size))); clear hb2)
    | (go_at_call 43; refine (HP.out _ (show Wr N x W (l ++ [10]) 0 _ from (by unfold Wr; rw [Lib.byteCells_append]; exact HS2.out)) HN2.out).mono ?_; rintro e w3 ⟨rfl, h3, hb3⟩))
  go_end0
  refine ⟨rfl, ?_, HF2.out.trans hb3⟩
  have e1 : l ++ [10] ++ List.replicate c 32 = l ++ Sc.nl c := by simp [Sc.nl]
  rw [e1, List.length_replicate, Nat.zero_add] at h3
  exact h3

set_option maxHeartbeats 2000000 in
set_option maxRecDepth 100000 in
theorem string_any (N x : Nat) (W : Int) (l : List UInt8) (c : Nat) (w : World) (h : Wr N x W l c w) (h0 : l ≠ []) :
    Calls Tryd.prog 33 #[.pointer (some ⟨x, 0, none⟩)] w fun e w' => e = .returned (.string ⟨l.toArray⟩) ∧ Below N w w' := by
  obtain ⟨p, v, hbk, hown, hne⟩ := h.any
  have hl0 : l.length ≠ 0 := by simpa using h0
  rw [Lib.byteCells_length] at hown
  obtain ⟨g, cap, cur, rfl, hbg, hg, hnc, hcm, hcs, htake⟩ : ∃ g cap cur, v = .slice (some ⟨g, 0, none⟩) l.length cap ∧ N ≤ g ∧ w.heap[g]? = some (.cells cur 5 (0, 0)) ∧ l.length ≤ cap ∧ cap ≤ maxLen ∧ cur.size = cap * 1 ∧ cur.toList.take (l.length * 1) = Lib.byteCells l := by
    rcases hown.2 with ⟨_, hz⟩ | ⟨g, cap, cur, hv, r⟩
    · exact absurd hz hl0
    · exact ⟨g, cap, cur, hv, r⟩
  have c1 : w.drew.cell? ⟨x, 1, none⟩ = some (.slice (some ⟨g, 0, none⟩) l.length cap) := by
    have : w.drew.heap[x]? = some (.cells #[p, .slice (some ⟨g, 0, none⟩) l.length cap, .int .i64 W, .int .i64 c] 70 (0, 0)) := hbk
    rw [Lib.cell_of_heap this]; rfl
  have hSD : (Builtin.unsafeSliceData_ #[46] 97 #[.slice (some ⟨g, 0, none⟩) l.length cap]).run Tryd.prog w.drew = .ok (.pointer (some ⟨g, 0, none⟩)) w.drew :=
    Lib.run_unsafeSliceData_row _ _ _ _ _ _ (by omega)
  have hUS : (Builtin.unsafeString_ #[97, 3] 9 #[.pointer (some ⟨g, 0, none⟩), .int .i64 l.length]).run Tryd.prog w.drew = .ok (.string ⟨l.toArray⟩) (w.drew.freeze ⟨g, 0, none⟩ l.length) := by
    refine Lib.run_unsafeString_row w.drew 97 3 9 5 (by kernel_rfl) xB.cellsByte g cur.size (by have hg' : w.drew.heap[g]? = some (.cells cur 5 (0, 0)) := hg; simp [World.shape?, hg']) l h0 (by omega) (by unfold maxLen at hcm; omega) ?_
    intro j x hx
    have := hown.cells (g := g) rfl j (.int .u8 x.toNat) (by simp [Lib.byteCells, hx])
    exact this
  go_enter Tryd.func33, Tryd.ntmps33
  go_wp2
  go_region
  all_goals (go_wp2; go_ret; exact ⟨rfl, Lib.below_freeze (Below.drew (Below.refl N w)) (p := ⟨g, 0, none⟩) hbg _⟩)

end Go.Proofs.YtoieklacpkahbaaDoor
