/- Plain laws: how the second layout sees elements: as ranges of tokens. No program here. -/
import Derived.Test.YtigdfhcmhidhbaaDoorPlainO
namespace Go.Proofs.YtigdfhcmhidhbaaDoor
open Go.RowKit
namespace Sc
/-- The blanks between two tokens of a flat text. -/
def flatGap (p t : Tok) : List UInt8 := if t.kind = 3 ∨ p.kind = 2 ∨ p.kind = 4 then [] else [32]
def fl : Tok → List Tok → List (List UInt8 × Tok)
  | _, [] => []
  | p, t :: ts => (flatGap p t, t) :: fl t ts
theorem fl_app (p : Tok) (xs : List Tok) (x : Tok) (ys : List Tok) : fl p (xs ++ [x] ++ ys) = fl p (xs ++ [x]) ++ fl x ys := by
  induction xs generalizing p with
  | nil => rfl
  | cons y xs ih => simp only [List.cons_append, fl]; rw [ih y]
theorem El.first_kind {e : El} (h : e.WF) : e.first.kind ≠ 3 := by
  cases e with
  | leaf t => have : t.kind = 1 ∨ t.kind = 5 := h; show t.kind ≠ 3; omega
  | pre t e => have := h.1; show t.kind ≠ 3; omega
  | lst o es c => have := h.1; show o.kind ≠ 3; omega
theorem El.last_kind : ∀ {e : El}, e.WF → e.last.kind ≠ 2 ∧ e.last.kind ≠ 4
  | .leaf t, h => by have : t.kind = 1 ∨ t.kind = 5 := h; simp only [El.last]; omega
  | .pre t e, h => El.last_kind (e := e) h.2.2
  | .lst o es c, h => by have := h.2.1; simp only [El.last]; omega
mutual
theorem El.flat_fl : ∀ (e : El), e.WF → ∀ g r, e.toks = e.first :: r → e.flat g = (g, e.first) :: fl e.first r
  | .leaf t, _, g, r, h => by
    rw [El.toks] at h
    injection h with _ h; subst h; rfl
  | .pre t e, hw, g, r, h => by
    rw [El.toks] at h
    injection h with _ h
    obtain ⟨r', hr⟩ := e.toks_first
    have ih := El.flat_fl e hw.2.2 [] r' hr
    rw [El.flat, ih, ← h, hr]
    show _ = (g, t) :: (flatGap t e.first, e.first) :: fl e.first r'
    have : flatGap t e.first = [] := by unfold flatGap; rw [if_pos (.inr (.inr hw.1))]
    rw [this]
  | .lst o es c, hw, g, r, h => by
    rw [El.toks] at h
    injection h with _ h
    rw [El.flat, ← h]
    show _ = (g, o) :: fl o (toksL es ++ [c])
    congr 1
    cases es with
    | nil =>
      show [([], c)] = [(flatGap o c, c)]
      have : flatGap o c = [] := by unfold flatGap; rw [if_pos (.inl hw.2.1)]
      rw [this]
    | cons e es =>
      have := flatL_fl (e :: es) hw.2.2 o [] (fun e' r he => by
        unfold flatGap; rw [if_pos (.inr (.inl hw.1))]) 
      rw [this]
      have hl : ∃ x y, toksL (e :: es) = x ++ [y] := by
        have hne : toksL (e :: es) ≠ [] := by obtain ⟨r, hr⟩ := e.toks_first; rw [toksL, hr]; simp
        exact ⟨_, _, (List.dropLast_concat_getLast hne).symm⟩
      obtain ⟨x, y, hxy⟩ := hl
      rw [hxy, fl_app]
      congr 1
      have : flatGap y c = [] := by unfold flatGap; rw [if_pos (.inl hw.2.1)]
      rw [fl, this]; rfl
theorem flatL_fl : ∀ (es : List El), WFL es → ∀ p g, (∀ e r, es = e :: r → flatGap p e.first = g) → flatL es g = fl p (toksL es)
  | [], _, _, _, _ => rfl
  | e :: es, hw, p, g, hg => by
    obtain ⟨r, hr⟩ := e.toks_first
    have ih := El.flat_fl e hw.1 g r hr
    have hs := flatL_fl es hw.2 e.last [32] (fun e' r he => by
      subst he
      have h1 := El.last_kind hw.1
      have h2 := El.first_kind hw.2.1
      unfold flatGap; rw [if_neg (by omega)])
    obtain ⟨x, hx⟩ := e.toks_last
    rw [flatL, hs, ih, toksL, hx, fl_app, ← hx, hr, fl, hg e es rfl]
end
/-- Brackets that open, less those that close. -/
def net : List Tok → Int
  | [] => 0
  | t :: ts => (if t.kind = 2 then 1 else 0) - (if t.kind = 3 then 1 else 0) + net ts
theorem net_app (a b : List Tok) : net (a ++ b) = net a + net b := by
  induction a with
  | nil => simp [net]
  | cons t a ih => simp only [List.cons_append, net, ih]; omega
mutual
theorem El.net_ok : ∀ (e : El), e.WF → net e.toks = 0 ∧ ∀ k, 0 ≤ net (e.toks.take k)
  | .leaf t, h => by
    have h : t.kind = 1 ∨ t.kind = 5 := h
    have e : net [t] = 0 := by
      simp only [net]
      rw [if_neg (by omega), if_neg (by omega)]; rfl
    refine ⟨e, fun k => ?_⟩
    cases k with
    | zero => simp [net]
    | succ k => rw [El.toks, List.take_succ_cons, List.take_nil, e]; decide
  | .pre t e, h => by
    have ih := El.net_ok e h.2.2
    have h4 := h.1
    refine ⟨?_, fun k => ?_⟩
    · rw [El.toks, net, ih.1, if_neg (by omega), if_neg (by omega)]; rfl
    · cases k with
      | zero => simp [net]
      | succ k =>
        have := ih.2 k
        rw [El.toks, List.take_succ_cons, net, if_neg (by omega), if_neg (by omega)]; omega
  | .lst o es c, h => by
    have ih := netL_ok es h.2.2
    have h2 := h.1
    have h3 := h.2.1
    refine ⟨?_, fun k => ?_⟩
    · rw [El.toks, net, net_app, ih.1, if_pos h2, if_neg (by omega), net, if_neg (by omega), if_pos h3]; rfl
    · cases k with
      | zero => simp [net]
      | succ k =>
        rw [El.toks, List.take_succ_cons, net, if_pos h2, if_neg (by omega), List.take_append, net_app]
        have := ih.2 k
        cases hk : k - (toksL es).length with
        | zero => simp [net]; omega
        | succ m => rw [List.take_succ_cons, List.take_nil, net, if_neg (by omega), if_pos h3, net]; omega
theorem netL_ok : ∀ (es : List El), WFL es → net (toksL es) = 0 ∧ ∀ k, 0 ≤ net ((toksL es).take k)
  | [], _ => ⟨rfl, fun k => by simp [toksL, net]⟩
  | e :: es, h => by
    have h1 := El.net_ok e h.1
    have h2 := netL_ok es h.2
    refine ⟨by rw [toksL, net_app, h1.1, h2.1]; rfl, fun k => ?_⟩
    rw [toksL, List.take_append, net_app]
    have := h1.2 k
    have := h2.2 (k - e.toks.length)
    omega
end
/-- Within a list at least one is open. -/
theorem lst_net {o c : Tok} {es : List El} (h : (El.lst o es c).WF) (k : Nat) (h0 : 0 < k) (hk : k < (El.lst o es c).toks.length) : 1 ≤ net ((El.lst o es c).toks.take k) := by
  have ih := netL_ok es h.2.2
  have h2 := h.1
  rw [El.toks] at hk ⊢
  cases k with
  | zero => omega
  | succ k =>
    rw [List.take_succ_cons, net, if_pos h2, if_neg (by omega), List.take_append_of_le_length (by simp at hk; omega)]
    have := ih.2 k
    omega
theorem colB_nil (c : Nat) : colB c [] = c := rfl
/-- The blanks ahead of an element are no part of how it is laid out. -/
theorem lay_gap (W : Nat) (e : El) (c0 : Nat) (g : List UInt8) (tail : Nat) : ∃ r, e.lay W c0 g tail = (g, e.first) :: r ∧ e.lay W (colB c0 g) [] tail = ([], e.first) :: r := by
  cases e with
  | leaf t => exact ⟨[], rfl, rfl⟩
  | pre t e =>
    rw [El.lay, El.lay, colB_nil]
    split
    · exact ⟨_, rfl, rfl⟩
    · exact ⟨_, rfl, rfl⟩
  | lst o es c =>
    rw [El.lay, El.lay, colB_nil]
    split
    · exact ⟨_, rfl, rfl⟩
    · exact ⟨_, rfl, rfl⟩
theorem lay_gap_render (W : Nat) (e : El) (c0 : Nat) (g : List UInt8) (tail : Nat) : render (e.lay W c0 g tail) [] = g ++ render (e.lay W (colB c0 g) [] tail) [] := by
  obtain ⟨r, h1, h2⟩ := lay_gap W e c0 g tail
  rw [h1, h2, render, render]; rfl
end Sc
end Go.Proofs.YtigdfhcmhidhbaaDoor
