/- Plain: the styles' words. -/
import Derived.Test.YtigdfhcmhidhbaaDoorPlainP
namespace Go.Proofs.YtigdfhcmhidhbaaDoor
open Go.RowKit
def formsB : List ByteArray := [⟨#[100, 101, 102, 105, 110, 101]⟩, ⟨#[108, 97, 109, 98, 100, 97]⟩, ⟨#[108, 101, 116]⟩, ⟨#[108, 101, 116, 42]⟩, ⟨#[108, 101, 116, 114, 101, 99]⟩, ⟨#[119, 104, 101, 110]⟩, ⟨#[117, 110, 108, 101, 115, 115]⟩]
def blocksB : List ByteArray := [⟨#[98, 101, 103, 105, 110]⟩, ⟨#[99, 111, 110, 100]⟩, ⟨#[101, 108, 115, 101]⟩, ⟨#[100, 111]⟩]
namespace Sc
theorem El.isB_first_eq {e : El} (hw : e.WF) : e.isB = ((e.first.kind == 5) && e.first.behind) := by
  cases e with
  | leaf t => rfl
  | pre t e => have := hw.1; simp [El.isB, El.first, this]
  | lst o es c => have := hw.1; simp [El.isB, El.first, this]
theorem El.isC_first_eq {e : El} (hw : e.WF) : e.isC = (e.first.kind == 5) := by
  cases e with
  | leaf t => rfl
  | pre t e => have := hw.1; simp [El.isC, El.first, this]
  | lst o es c => have := hw.1; simp [El.isC, El.first, this]
theorem formsB_any (x : List UInt8) : formsB.any (fun y => y.toList == (⟨x.toArray⟩ : ByteArray).toList) = decide (x ∈ forms) := by
  rw [ByteArray.toList_mk]
  have e : formsB.map (·.toList) = forms := by
    simp only [formsB, List.map_cons, List.map_nil, ByteArray.toList_eq]; rfl
  rw [← e]
  induction formsB with
  | nil => simp
  | cons y ys ih =>
    rw [List.any_cons, ih, List.map_cons]
    by_cases h : y.toList = x
    · simp [h]
    · have : ¬ x = y.toList := fun e => h e.symm
      simp [h, this]
theorem blocksB_any (x : List UInt8) : blocksB.any (fun y => y.toList == (⟨x.toArray⟩ : ByteArray).toList) = decide (x ∈ blocks) := by
  rw [ByteArray.toList_mk]
  have e : blocksB.map (·.toList) = blocks := by
    simp only [blocksB, List.map_cons, List.map_nil, ByteArray.toList_eq]; rfl
  rw [← e]
  induction blocksB with
  | nil => simp
  | cons y ys ih =>
    rw [List.any_cons, ih, List.map_cons]
    by_cases h : y.toList = x
    · simp [h]
    · have : ¬ x = y.toList := fun e => h e.symm
      simp [h, this]
theorem style_not (o : Tok) (es : List El) (h : ∀ f r, es = .leaf f :: r → f.kind ≠ 1) : style o es = (o.text.length, false) := by
  cases es with
  | nil => rfl
  | cons e es =>
    cases e with
    | pre _ _ => rfl
    | lst _ _ _ => rfl
    | leaf f =>
      have := h f es rfl
      unfold style
      simp only
      rw [if_neg this]
/-- The style by the booleans that the walk takes. -/
theorem style_leafs (o f : Tok) (r : List El) (sk : Int) (h1 : f.kind = 1) (hw : WFL r) (hsk : (r = [] ∧ sk = 3) ∨ ∃ e r', r = e :: r' ∧ sk = e.first.kind) :
    (if (o.text == [40]) && decide (f.text ∈ forms) then ((2 : Int), sk != 5) else if (o.text == [40]) && decide (f.text ∈ blocks) then (2, false) else if !(f.text.take 2 == [35, 124]) && sk != 5 && sk != 3 then ((o.text.length : Int) + f.text.length + 1, true) else ((o.text.length : Int), false))
      = (((style o (.leaf f :: r)).1 : Int), (style o (.leaf f :: r)).2) := by
  unfold style
  simp only
  rw [if_pos h1]
  by_cases c1 : o.text = [40] ∧ f.text ∈ forms
  · rw [if_pos (by simp [c1]), if_pos c1]
    rcases hsk with ⟨rfl, rfl⟩ | ⟨e, r', rfl, rfl⟩
    · rfl
    · simp only
      rw [El.isC_first_eq hw.1]; rfl
  · rw [if_neg (by simpa using c1), if_neg c1]
    by_cases c2 : o.text = [40] ∧ f.text ∈ blocks
    · rw [if_pos (by simp [c2]), if_pos c2]; rfl
    · rw [if_neg (by simpa using c2), if_neg c2]
      rcases hsk with ⟨rfl, rfl⟩ | ⟨e, r', rfl, rfl⟩
      · simp
      · have h3 := El.first_kind hw.1
        simp only
        rw [El.isC_first_eq hw.1]
        by_cases c3 : f.text.take 2 = [35, 124]
        · simp [c3]
        · by_cases c5 : e.first.kind = 5
          · simp [c5]
          · simp [c3, c5, h3]
end Sc
end Go.Proofs.YtigdfhcmhidhbaaDoor
