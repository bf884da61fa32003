/- Links: what the second layout's small functions say of elements. -/
import Derived.Test.YtoieklacpkahbaaGreatDoorWalkP
namespace Go.Proofs.YtoieklacpkahbaaGreatDoor
open Go.RowKit
namespace Sc
/-- What follows a list's elements: nothing, or a bracket that closes. -/
def Shut (rest : List Tok) : Prop := ∀ t r, rest = t :: r → t.kind = 3
theorem isBt_cons {ts : List Tok} {k : Nat} {e : El} {rest : List Tok} (hw : e.WF) (h : (ts.drop k).map erase = e.toks ++ rest) : isBt ts k = e.isB := by
  obtain ⟨r, hr⟩ := e.toks_first
  rw [hr] at h
  obtain ⟨hi, h1, _, h3, _⟩ := tok_at h
  unfold isBt
  rw [List.getElem?_eq_getElem hi, El.isB_first_eq hw]
  simp only
  rw [h1, h3]
theorem isBt_shut {ts : List Tok} {k : Nat} {rest : List Tok} (hs : Shut rest) (h : (ts.drop k).map erase = rest) : isBt ts k = false := by
  unfold isBt
  cases rest with
  | nil =>
    have : ts.length ≤ k := by
      have := congrArg List.length h; simp at this; omega
    rw [List.getElem?_eq_none this]
  | cons t r =>
    obtain ⟨hi, h1, _, _, _⟩ := tok_at h
    have := hs t r rfl
    rw [List.getElem?_eq_getElem hi]
    simp only
    rw [h1, this]; rfl
theorem tailT_eq {ts : List Tok} {k : Nat} {es : List El} {rest : List Tok} (last : Nat) (hw : WFL es) (hs : Shut rest) (h : (ts.drop k).map erase = toksL es ++ rest) : tailT ts k last = tailOf es last := by
  unfold tailT
  cases es with
  | nil =>
    rw [isBt_shut hs (by simpa [toksL] using h)]
    simp only [Bool.false_eq_true, if_false, tailOf]
    cases rest with
    | nil =>
      have : ts.length ≤ k := by
        have := congrArg List.length h; simp [toksL] at this; omega
      rw [List.getElem?_eq_none this]
    | cons t r =>
      obtain ⟨hi, h1, _, _, _⟩ := tok_at (t := t) (r := r) (by simpa [toksL] using h)
      have := hs t r rfl
      rw [List.getElem?_eq_getElem hi]
      simp only
      rw [h1, if_pos this]
  | cons e es =>
    rw [toksL, List.append_assoc] at h
    rw [isBt_cons hw.1 h]
    obtain ⟨r, hr⟩ := e.toks_first
    rw [hr] at h
    obtain ⟨hi, h1, h2, _, _⟩ := tok_at h
    simp only [tailOf]
    rw [List.getElem?_eq_getElem hi]
    cases hB : e.isB with
    | true => simp [h2]
    | false =>
      have := El.first_kind hw.1
      simp only [Bool.false_eq_true, if_false]
      rw [h1, if_neg this]; rfl
end Sc
end Go.Proofs.YtoieklacpkahbaaGreatDoor
