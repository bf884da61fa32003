/- Plain laws: other blanks; where the tokens of what is laid out stand. No program here. -/
import Derived.Test.YtigdfhcmhidhbaaDoorPlainN
namespace Go.Proofs.YtigdfhcmhidhbaaDoor
open Go.RowKit
namespace Sc
def lastP (p : Option Tok) (ps : List (List UInt8 × Tok)) : Option Tok := match ps.getLast? with | some q => some q.2 | none => p
theorem Okp.snoc {ps : List (List UInt8 × Tok)} {p : Option Tok} {g : List UInt8} {t : Tok} (h : Okp p ps []) (k : Okg (lastP p ps) g t) : Okp p (ps ++ [(g, t)]) [] := by
  induction ps generalizing p with
  | nil => exact k.cons ⟨fun c hc => by simp at hc, fun q _ _ => .inl rfl⟩
  | cons q ps ih =>
    obtain ⟨g', t'⟩ := q
    refine ⟨h.1, h.2.1, h.2.2.1, h.2.2.2.1, ih h.2.2.2.2 ?_⟩
    have : lastP (some t') ps = lastP p ((g', t') :: ps) := by
      unfold lastP
      cases ps with
      | nil => rfl
      | cons x ps =>
        rw [List.getLast?_cons_cons]
        cases hx : (x :: ps).getLast? with
        | none => simp at hx
        | some y => rfl
    rw [this]; exact k
/-- The same tokens with other blanks are laid out the same. -/
theorem loose_plain {l : List UInt8} {ts : List Tok} {pl : Int} (h : scanRes l = (ts, 0, pl)) (ps : List (List UInt8 × Tok)) (tl : List UInt8) (hk : ps.map (·.2) = ts) (ho : Okp none ps tl) (hl : (render ps tl).length ≤ 4096) (W : Nat) :
    fmtRes (render ps tl) W = (fmtT W ts, 0, 0) := by
  unfold fmtRes
  rw [scan_render h ps tl (by rw [hk]) ho hl]
  simp only [if_true]
  rw [fmtT_key (by rw [placed_key, hk] : (placed ps 0).map key = ts.map key)]
/-- Blanks that may stand ahead of a token, if there is at least one. -/
theorem okg_loose {p : Option Tok} {g : List UInt8} {t : Tok} (hg : ∀ c ∈ g, bl3 c = true) (hne : g ≠ []) (ht : Good t) (h5 : ∀ q, p = some q → q.kind = 5 → ∃ r, g = 10 :: r)
    (hb : t.behind = true → endK p = true) (h10 : t.kind = 5 → (t.behind = false ↔ 10 ∈ g)) : Okg p g t := by
  refine ⟨hg, ht, fun q hq => ⟨fun h => absurd h hne, h5 q hq⟩, fun hk => ?_⟩
  have := h10 hk
  cases hbb : t.behind with
  | false =>
    have := this.1 hbb
    simp [this]
  | true =>
    have hn : (10 : UInt8) ∉ g := fun hm => by have := this.2 hm; rw [hbb] at this; cases this
    rw [hb hbb]
    simp [hn]
theorem render_take (ps : List (List UInt8 × Tok)) (tl : List UInt8) (i : Nat) : render ps tl = render (ps.take i) [] ++ render (ps.drop i) tl := by
  rw [← render_tl, ← render_app, List.take_append_drop]
theorem placed_get : ∀ (ps : List (List UInt8 × Tok)) (k i : Nat) (h : i < ps.length), (placed ps k)[i]? = some { ps[i].2 with place := ((k + (render (ps.take i) []).length + ps[i].1.length : Nat) : Int) }
  | [], _, _, h => by simp at h
  | (g, t) :: ps, k, 0, _ => by simp [placed, render]
  | (g, t) :: ps, k, i + 1, h => by
    rw [placed, List.getElem?_cons_succ, placed_get ps _ i (by simpa using h)]
    simp only [List.getElem_cons_succ, List.take_succ_cons, render, List.length_append]
    congr 3
    omega
theorem placed_len : ∀ (ps : List (List UInt8 × Tok)) (k : Nat), (placed ps k).length = ps.length
  | [], _ => rfl
  | (g, t) :: ps, k => by rw [placed, List.length_cons, List.length_cons, placed_len ps]
theorem render_at (ps : List (List UInt8 × Tok)) (tl : List UInt8) (i : Nat) (h : i < ps.length) : (render ps tl).drop (render (ps.take i) []).length = ps[i].1 ++ (ps[i].2.text ++ render (ps.drop (i + 1)) tl) := by
  rw [render_take ps tl i, List.drop_left, List.drop_eq_getElem_cons h]; rfl
theorem render_next (ps : List (List UInt8 × Tok)) (i : Nat) (h : i < ps.length) : (render (ps.take (i + 1)) []).length = (render (ps.take i) []).length + ps[i].1.length + ps[i].2.text.length := by
  rw [List.take_succ_eq_append_getElem h, render_app, render_tl]
  simp [render]; omega
/-- A line's beginning, from behind. -/
theorem colB_le (l : List UInt8) : colB 0 l ≤ l.length := by
  have key : ∀ (l : List UInt8) (c : Nat), colB c l ≤ c + l.length := by
    intro l
    induction l with
    | nil => intro c; simp [colB]
    | cons b l ih =>
      intro c
      have e : colB c (b :: l) = colB (if b = 10 then 0 else c + 1) l := rfl
      rw [e]
      have := ih (if b = 10 then 0 else c + 1)
      simp only [List.length_cons]
      by_cases hb : b = 10
      · rw [if_pos hb] at this ⊢; omega
      · rw [if_neg hb] at this ⊢; omega
  have := key l 0; omega
theorem colB_snoc (l : List UInt8) (b : UInt8) : colB 0 (l ++ [b]) = if b = 10 then 0 else colB 0 l + 1 := by
  rw [colB_app]; rfl
end Sc
end Go.Proofs.YtigdfhcmhidhbaaDoor
