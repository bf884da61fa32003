/- Plain laws: a whole text with other blanks. No program here. -/
import Derived.Test.YtigdfhcmhidhbaaDoorPlainV
namespace Go.Proofs.YtigdfhcmhidhbaaDoor
open Go.RowKit
namespace Sc
/-- What a token is, but for its place. -/
def key (t : Tok) : Int × List UInt8 × Bool := (t.kind, t.text, t.behind)
theorem key_kind {t u : Tok} (h : key t = key u) : t.kind = u.kind := congrArg (·.1) h
theorem key_text {t u : Tok} (h : key t = key u) : t.text = u.text := congrArg (·.2.1) h
theorem key_behind {t u : Tok} (h : key t = key u) : t.behind = u.behind := congrArg (·.2.2) h
theorem leadsB_key {p q t u : Tok} (h1 : key p = key q) (h2 : key t = key u) : leadsB p t = leadsB q u := by
  unfold leadsB; rw [key_kind h2, key_text h1, key_text h2]
theorem leads_key {p q : Tok} {ts us : List Tok} (h1 : key p = key q) (h2 : ts.map key = us.map key) : leads p ts = leads q us := by
  cases ts with
  | nil => cases us with
    | nil => rfl
    | cons u us => simp at h2
  | cons t ts => cases us with
    | nil => simp at h2
    | cons u us => simp only [List.map_cons, List.cons.injEq] at h2; exact leadsB_key h1 h2.1
theorem listsGo_key : ∀ (ts us : List Tok) (st st' : List Int), ts.map key = us.map key → st.length = st'.length → (listsGo ts st).1 = (listsGo us st').1 := by
  intro ts
  induction ts with
  | nil =>
    intro us st st' h hs
    cases us with
    | cons u us => simp at h
    | nil =>
      rw [listsGo, listsGo]
      cases h1 : st.getLast? with
      | none =>
        have : st' = [] := List.eq_nil_of_length_eq_zero (by rw [← hs, List.getLast?_eq_none_iff.1 h1]; rfl)
        rw [this]; rfl
      | some p =>
        cases h2 : st'.getLast? with
        | none =>
          have : st = [] := List.eq_nil_of_length_eq_zero (by rw [hs, List.getLast?_eq_none_iff.1 h2]; rfl)
          rw [this] at h1; cases h1
        | some q => rfl
  | cons t ts ih =>
    intro us st st' h hs
    cases us with
    | nil => simp at h
    | cons u us =>
      simp only [List.map_cons, List.cons.injEq] at h
      rw [listsGo, listsGo, key_kind h.1, leads_key h.1 h.2, hs]
      split
      · split
        · rfl
        · exact ih _ _ _ h.2 (by simp [hs])
      · split
        · split
          · rfl
          · exact ih _ _ _ h.2 (by simp [hs])
        · split
          · split
            · exact ih _ _ _ h.2 hs
            · rfl
          · exact ih _ _ _ h.2 hs
theorem placed_key : ∀ (ps : List (List UInt8 × Tok)) (i : Nat), (placed ps i).map key = (ps.map (·.2)).map key := by
  intro ps
  induction ps with
  | nil => intro i; rfl
  | cons q ps ih => intro i; obtain ⟨g, t⟩ := q; simp only [placed, List.map_cons, ih]; rfl
theorem strangeI_clean : ∀ (l : List UInt8) (i : Nat), (∀ c ∈ l, strange c = false) → strangeI l i = -1 := by
  intro l
  induction l with
  | nil => intro i _; rfl
  | cons c l ih =>
    intro i h
    rw [strangeI, h c (List.mem_cons_self ..)]
    exact ih (i + 1) (fun x hx => h x (List.mem_cons_of_mem _ hx))
theorem strangeAt_clean (l : List UInt8) (h : ∀ c ∈ l, strange c = false) : strangeAt l = -1 := by
  unfold strangeAt; exact strangeI_clean _ 0 (by simpa using h)
theorem bl3_strange {c : UInt8} (h : bl3 c = true) : strange c = false := by
  rcases bl3_cases h with rfl | rfl | rfl <;> rfl
theorem render_clean : ∀ (ps : List (List UInt8 × Tok)) (p : Option Tok) (tl : List UInt8), Okp p ps tl → (∀ q ∈ ps, ∀ c ∈ q.2.text, strange c = false) → ∀ c ∈ render ps tl, strange c = false := by
  intro ps
  induction ps with
  | nil => intro p tl h _ c hc; exact bl3_strange (h.1 c hc)
  | cons q ps ih =>
    intro p tl h hc c hm
    obtain ⟨g, t⟩ := q
    rw [render] at hm
    rcases List.mem_append.1 hm with hm | hm
    · exact bl3_strange (h.1 c hm)
    · rcases List.mem_append.1 hm with hm | hm
      · exact hc _ (List.mem_cons_self ..) c hm
      · exact ih (some t) tl h.2.2.2.2 (fun q hq => hc q (List.mem_cons_of_mem _ hq)) c hm
theorem Cov.mem {l : List UInt8} {ts : List Tok} {a b : Nat} (h : Cov l ts a b) : ∀ t ∈ ts, ∀ c ∈ t.text, c ∈ l := by
  induction ts generalizing a with
  | nil => intro t ht; simp at ht
  | cons u ts ih =>
    obtain ⟨p, h1, h2, h3, h4, h5, h6⟩ := h
    intro t ht c hc
    rcases List.mem_cons.1 ht with rfl | ht
    · rw [h5] at hc; exact List.mem_of_mem_drop (List.mem_of_mem_take hc)
    · exact ih h6 t ht c hc
/-- What a text that is read is. -/
theorem scan_ok {l : List UInt8} {ts : List Tok} {pl : Int} (h : scanRes l = (ts, 0, pl)) : l.length ≤ 4096 ∧ strangeAt l < 0 ∧ toksRes l = (ts, 0, (toksRes l).2.2) ∧ (listsRes ts).1 = 0 ∧ pl = 0 := by
  unfold scanRes at h
  split at h
  · simp at h
  · split at h
    · simp at h
    · split at h
      · simp only [Prod.mk.injEq] at h; exact absurd h.2.1 (by assumption)
      · split at h
        · simp only [Prod.mk.injEq] at h; exact absurd h.2.1 (by assumption)
        · simp only [Prod.mk.injEq] at h
          rename_i h1 h2 h3 h4
          have h3 := Decidable.not_not.1 h3
          have h4 := Decidable.not_not.1 h4
          obtain ⟨h5, _, h6⟩ := h
          rw [h5] at h4
          refine ⟨by omega, by omega, ?_, h4, h6.symm⟩
          rw [← h5, ← h3]
theorem scan_good {l : List UInt8} {ts : List Tok} {pl : Int} (h : scanRes l = (ts, 0, pl)) : ∀ t ∈ ts, Good t ∧ Shape t ∧ ∀ c ∈ t.text, strange c = false := by
  obtain ⟨h1, h2, h3, h4, _⟩ := scan_ok h
  have e1 : (toksRes l).1 = ts := by rw [h3]
  have e2 : (toksRes l).2.1 = 0 := by rw [h3]
  have hg := toksRes_good l
  have hs := toksRes_shape l
  have hc := toksRes_cov l e2
  rw [e1] at hg hs hc
  exact fun t ht => ⟨hg t ht, hs t ht, fun c hc' => strangeI_neg l 0 (by simpa [strangeAt] using h2) c (hc.mem t ht c hc')⟩
/-- A text that is read, with other blanks, is read the same. -/
theorem scan_render {l : List UInt8} {ts : List Tok} {pl : Int} (h : scanRes l = (ts, 0, pl)) (ps : List (List UInt8 × Tok)) (tl : List UInt8) (hk : (ps.map (·.2)).map key = ts.map key)
    (ho : Okp none ps tl) (hl : (render ps tl).length ≤ 4096) : scanRes (render ps tl) = (placed ps 0, 0, 0) := by
  have hg := scan_good h
  obtain ⟨h1, h2, h3, h4, _⟩ := scan_ok h
  have hst : strangeAt (render ps tl) = -1 := by
    refine strangeAt_clean _ (render_clean ps none tl ho fun q hq c hc => ?_)
    have : key q.2 ∈ (ps.map (·.2)).map key := by
      rw [List.map_map]; exact List.mem_map.2 ⟨q, hq, rfl⟩
    rw [hk] at this
    obtain ⟨t, ht, e⟩ := List.mem_map.1 this
    rw [← key_text e] at hc
    exact (hg t ht).2.2 c hc
  have hr := rescan ps tl ho
  have hls : (listsRes (placed ps 0)).1 = 0 := by
    rw [← h4]; unfold listsRes
    exact listsGo_key _ _ _ _ (by rw [placed_key, hk]) rfl
  unfold scanRes
  rw [if_neg (by omega), if_neg (by omega), hr]
  simp [hls]
end Sc
end Go.Proofs.YtigdfhcmhidhbaaDoor
