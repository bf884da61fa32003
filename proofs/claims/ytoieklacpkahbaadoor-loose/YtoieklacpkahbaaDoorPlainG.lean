/- Plain laws for Loose: one token more, with other blanks. No program here. -/
import Derived.Test.YtoieklacpkahbaaDoorPlainP
import Derived.Test.YtoieklacpkahbaaDoorPlainM
namespace Go.Proofs.YtoieklacpkahbaaDoor
open Go.RowKit
namespace Sc
theorem BehC.get : ∀ (xs : List Tok) (p : Option Tok) (k : Nat) (hk : k < xs.length), BehC p xs → xs[k].behind = true → endK (if k = 0 then p else xs[k - 1]?) = true
  | x :: xs, p, 0, _, h, hb => by simpa using h.1 hb
  | x :: xs, p, k + 1, hk, h, hb => by
    have := BehC.get xs (some x) k (by simpa using hk) h.2 (by simpa using hb)
    rw [if_neg (by omega)]
    cases k with
    | zero => simpa using this
    | succ k => rw [if_neg (by omega)] at this; simpa using this
theorem lastP_take {ps : List (List UInt8 × Tok)} {ts : List Tok} {k : Nat} (hk : k ≤ ts.length) (h : ps.map (·.2) = ts.take k) : lastP none ps = if k = 0 then none else ts[k - 1]? := by
  have hl : ps.length = k := by have := congrArg List.length h; simpa [Nat.min_eq_left hk] using this
  unfold lastP
  have e : (ps.map (·.2)).getLast? = ps.getLast?.map (·.2) := List.getLast?_map
  rw [h] at e
  by_cases h0 : k = 0
  · subst h0
    have : ps = [] := List.eq_nil_of_length_eq_zero hl
    subst this; rfl
  · rw [if_neg h0]
    rw [List.getLast?_eq_getElem?, List.length_take, Nat.min_eq_left hk, List.getElem?_take_of_lt (by omega)] at e
    rw [e]
    cases ps.getLast? <;> rfl
/-- The blanks that loose writes ahead of the k-th token. -/
def LooseGap (ts : List Tok) (k : Nat) (hk : k < ts.length) (g : List UInt8) : Prop :=
  (∀ c ∈ g, bl3 c = true) ∧ g ≠ [] ∧ (((0 < k ∧ ∃ q, ts[k - 1]? = some q ∧ q.kind = 5) ∨ (ts[k].kind = 5 ∧ ts[k].behind = false)) → ∃ r, g = 10 :: r) ∧
  (¬ ((0 < k ∧ ∃ q, ts[k - 1]? = some q ∧ q.kind = 5) ∨ (ts[k].kind = 5 ∧ ts[k].behind = false)) → ts[k].kind = 5 → 10 ∉ g)
theorem loose_step {l : List UInt8} {ts : List Tok} {pl : Int} (h : scanRes l = (ts, 0, pl)) (k : Nat) (hk : k < ts.length) (ps : List (List UInt8 × Tok)) (hps : ps.map (·.2) = ts.take k) (ho : Okp none ps []) (g : List UInt8) (hg : LooseGap ts k hk g) :
    (ps ++ [(g, ts[k])]).map (·.2) = ts.take (k + 1) ∧ Okp none (ps ++ [(g, ts[k])]) [] ∧ render (ps ++ [(g, ts[k])]) [] = render ps [] ++ g ++ ts[k].text := by
  obtain ⟨h1, h2, h3, h4⟩ := hg
  have hbeh := BehC.get ts none k hk (scan_behC h)
  have hlp := lastP_take (Nat.le_of_lt hk) hps
  have hend : ∀ q, (if k = 0 then none else ts[k - 1]?) = some q → 0 < k ∧ ts[k - 1]? = some q := by
    intro q hq
    by_cases h0 : k = 0
    · rw [if_pos h0] at hq; cases hq
    · rw [if_neg h0] at hq; exact ⟨by omega, hq⟩
  refine ⟨by rw [List.map_append, hps, List.take_succ_eq_append_getElem hk]; rfl, ho.snoc ?_, ?_⟩
  · rw [hlp]
    refine okg_loose h1 h2 (scan_good h _ (List.getElem_mem hk)).1 (fun q hq h5 => ?_) hbeh (fun h5 => ?_)
    · obtain ⟨a, b⟩ := hend q hq
      exact h3 (.inl ⟨a, q, b, h5⟩)
    · by_cases hc : (0 < k ∧ ∃ q, ts[k - 1]? = some q ∧ q.kind = 5) ∨ (ts[k].kind = 5 ∧ ts[k].behind = false)
      · obtain ⟨r, hr⟩ := h3 hc
        refine ⟨fun _ => by rw [hr]; simp, fun _ => ?_⟩
        rcases hc with ⟨a, q, b, c⟩ | ⟨_, c⟩
        · cases hb : ts[k].behind with
          | false => rfl
          | true =>
            have := hbeh hb
            rw [if_neg (by omega), b] at this
            simp [endK, c] at this
        · exact c
      · refine ⟨fun hb => absurd (.inr ⟨h5, hb⟩) hc, fun hm => absurd hm (h4 hc h5)⟩
  · rw [render_app, render_tl]; simp [render]
end Sc
end Go.Proofs.YtoieklacpkahbaaDoor
