/- Plain: tokens are elements in one way; the first text. -/
import Derived.Test.YtoieklacpkahbaaDoorPlainZ
import Derived.Test.YtoieklacpkahbaaDoorPlainP
namespace Go.Proofs.YtoieklacpkahbaaDoor
open Go.RowKit
namespace Sc
mutual
/-- Tokens are elements in one way. -/
theorem El.uniq : ∀ (e : El), e.WF → ∀ (e' : El), e'.WF → ∀ r r', e.toks ++ r = e'.toks ++ r' → e = e' ∧ r = r'
  | .leaf t, hw, e', hw', r, r', h => by
    have hk : t.kind = 1 ∨ t.kind = 5 := hw
    cases e' with
    | leaf t' => simp only [El.toks, List.singleton_append, List.cons.injEq] at h; exact ⟨by rw [h.1], h.2⟩
    | pre t' e' => have := hw'.1; simp only [El.toks, List.cons_append, List.cons.injEq] at h; rw [h.1] at hk; omega
    | lst o' es' c' => have := hw'.1; simp only [El.toks, List.cons_append, List.cons.injEq] at h; rw [h.1] at hk; omega
  | .pre t e, hw, e', hw', r, r', h => by
    have hk : t.kind = 4 := hw.1
    cases e' with
    | leaf t' => have hk' : t'.kind = 1 ∨ t'.kind = 5 := hw'; simp only [El.toks, List.cons_append, List.cons.injEq] at h; rw [h.1] at hk; omega
    | lst o' es' c' => have := hw'.1; simp only [El.toks, List.cons_append, List.cons.injEq] at h; rw [h.1] at hk; omega
    | pre t' e' =>
      simp only [El.toks, List.cons_append, List.cons.injEq] at h
      obtain ⟨h1, h2⟩ := El.uniq e hw.2.2 e' hw'.2.2 r r' h.2
      exact ⟨by rw [h.1, h1], h2⟩
  | .lst o es c, hw, e', hw', r, r', h => by
    have hk : o.kind = 2 := hw.1
    cases e' with
    | leaf t' => have hk' : t'.kind = 1 ∨ t'.kind = 5 := hw'; simp only [El.toks, List.cons_append, List.cons.injEq] at h; rw [h.1] at hk; omega
    | pre t' e' => have := hw'.1; simp only [El.toks, List.cons_append, List.cons.injEq] at h; rw [h.1] at hk; omega
    | lst o' es' c' =>
      simp only [El.toks, List.cons_append, List.append_assoc, List.cons.injEq] at h
      obtain ⟨h1, h2⟩ := uniqL es hw.2.2 es' hw'.2.2 (c :: r) (c' :: r') (fun x y e => by cases e; exact hw.2.1) (fun x y e => by cases e; exact hw'.2.1) h.2
      injection h2 with h2 h3
      exact ⟨by rw [h.1, h1, h2], h3⟩
theorem uniqL : ∀ (es : List El), WFL es → ∀ (es' : List El), WFL es' → ∀ r r', (∀ x y, r = x :: y → x.kind = 3) → (∀ x y, r' = x :: y → x.kind = 3) → toksL es ++ r = toksL es' ++ r' → es = es' ∧ r = r'
  | [], _, es', hw', r, r', hr, _, h => by
    cases es' with
    | nil => exact ⟨rfl, h⟩
    | cons e' es' =>
      obtain ⟨y, hy⟩ := e'.toks_first
      rw [toksL, toksL, hy] at h
      have := hr _ _ h
      exact absurd this (El.first_kind hw'.1)
  | e :: es, hw, es', hw', r, r', hr, hr', h => by
    cases es' with
    | nil =>
      obtain ⟨y, hy⟩ := e.toks_first
      rw [toksL, toksL, hy] at h
      have := hr' _ _ h.symm
      exact absurd this (El.first_kind hw.1)
    | cons e' es' =>
      rw [toksL, toksL, List.append_assoc, List.append_assoc] at h
      obtain ⟨h1, h2⟩ := El.uniq e hw.1 e' hw'.1 _ _ h
      obtain ⟨h3, h4⟩ := uniqL es hw.2 es' hw'.2 r r' hr hr' h2
      exact ⟨by rw [h1, h3], h4⟩
end
theorem parse_of {es : List El} (h : WFL es) : parse (toksL es) = es := by
  obtain ⟨h1, h2⟩ := parse_spec ⟨es, rfl, h⟩
  exact (uniqL _ h2 es h [] [] (fun _ _ e => by cases e) (fun _ _ e => by cases e) (by rw [h1])).1
theorem ex_scan0 : ∃ ts, ts.length = 6 ∧ scanRes [40, 97, 32, 39, 98, 41, 32, 59, 32, 99, 32] = (ts, 0, 0) := ⟨[⟨2, [40], 0, false⟩, ⟨1, [97], 1, false⟩, ⟨4, [39], 3, false⟩, ⟨1, [98], 4, false⟩, ⟨3, [41], 5, false⟩, ⟨5, [59, 32, 99], 7, true⟩], rfl, by kernel_rfl⟩
def exT : List Tok := [⟨2, [40], 0, false⟩, ⟨1, [102], 1, false⟩, ⟨1, [97], 5, false⟩, ⟨1, [98], 8, false⟩, ⟨3, [41], 9, false⟩]
theorem ex_scan : scanRes [40, 102, 32, 32, 32, 97, 10, 32, 98, 41] = (exT, 0, 0) := by kernel_rfl
theorem ex_fmt : fmtRes [40, 102, 32, 32, 32, 97, 10, 32, 98, 41] 6 = ([40, 102, 32, 97, 10, 32, 32, 32, 98, 41, 10], 0, 0) := by
  unfold fmtRes
  rw [ex_scan]
  simp only [if_true]
  unfold fmtT
  have : exT.map erase = toksL [.lst ⟨2, [40], 0, false⟩ [.leaf ⟨1, [102], 0, false⟩, .leaf ⟨1, [97], 0, false⟩, .leaf ⟨1, [98], 0, false⟩] ⟨3, [41], 0, false⟩] := by
    simp [exT, erase, toksL, El.toks]
  rw [this, parse_of (by simp [WFL, El.WF])]
  rfl
/-- A raw width. -/
def wOf (n : Int) : Int := 1 + (if n < 0 then -(n + 1) else n) % 200
theorem wOf_in (n : Int) : 1 ≤ wOf n ∧ wOf n ≤ 200 := by unfold wOf; split <;> omega
end Sc
end Go.Proofs.YtoieklacpkahbaaDoor
