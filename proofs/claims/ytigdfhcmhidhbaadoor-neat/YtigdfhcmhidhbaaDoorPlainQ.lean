/- Plain laws: how long a text that is laid out can be. No program here. -/
import Derived.Test.YtigdfhcmhidhbaaDoorPlainP
namespace Go.Proofs.YtigdfhcmhidhbaaDoor
open Go.RowKit
namespace Sc
/-- What tokens weigh. -/
def wt : List Tok → Nat
  | [] => 0
  | t :: ts => t.text.length + 1 + wt ts
theorem wt_app (a b : List Tok) : wt (a ++ b) = wt a + wt b := by
  induction a with
  | nil => simp [wt]
  | cons t a ih => simp only [List.cons_append, wt, ih]; omega
/-- No column beyond K. -/
def Cap (K : Nat) : Nat → List (List UInt8 × Tok) → Prop
  | _, [] => True
  | c, (g, t) :: ps => colB c g + t.text.length ≤ K ∧ g.length ≤ K + 1 ∧ Cap K (colB c g + t.text.length) ps
theorem Cap.app {K c : Nat} {a b : List (List UInt8 × Tok)} (hn : ∀ q ∈ a, No10 q.2.text) (h : Cap K c a) (k : Cap K (colB c (render a [])) b) : Cap K c (a ++ b) := by
  induction a generalizing c with
  | nil => exact k
  | cons q a ih =>
    obtain ⟨g, t⟩ := q
    refine ⟨h.1, h.2.1, ih (fun q hq => hn q (List.mem_cons_of_mem _ hq)) h.2.2 ?_⟩
    rw [render, colB_app, colB_app, colB_no10 _ t.text (hn _ (List.mem_cons_self ..))] at k
    exact k
theorem Cap.len {K c : Nat} {ps : List (List UInt8 × Tok)} (h : Cap K c ps) : (render ps []).length ≤ ps.length * (2 * K + 1) := by
  induction ps generalizing c with
  | nil => simp [render]
  | cons q ps ih =>
    obtain ⟨g, t⟩ := q
    have := ih h.2.2
    have h1 := h.1
    have h2 := h.2.1
    rw [render, List.length_append, List.length_append, List.length_cons, Nat.add_mul]
    omega
theorem no10_of {ps : List (List UInt8 × Tok)} {ts : List Tok} (h : ps.map (·.2) = ts) (hn : ∀ t ∈ ts, No10 t.text) : ∀ q ∈ ps, No10 q.2.text := fun q hq => hn q.2 (by rw [← h]; exact List.mem_map.2 ⟨q, hq, rfl⟩)
mutual
theorem El.flat_cap (K : Nat) : ∀ (e : El), (∀ t ∈ e.toks, No10 t.text) → ∀ c0 g, g.length ≤ K + 1 → colB c0 g + wt e.toks ≤ K + 1 → Cap K c0 (e.flat g) ∧ colB c0 (render (e.flat g) []) + 1 ≤ colB c0 g + wt e.toks
  | .leaf t, hn, c0, g, hg, hk => by
    have ht : No10 t.text := hn t (by rw [El.toks]; simp)
    simp only [El.toks, wt] at hk ⊢
    rw [El.flat, render, render, List.append_nil, colB_app, colB_no10 _ _ ht]
    exact ⟨⟨by omega, hg, trivial⟩, by omega⟩
  | .pre t e, hn, c0, g, hg, hk => by
    have ht : No10 t.text := hn t (by rw [El.toks]; simp)
    simp only [El.toks, wt] at hk ⊢
    have ih := El.flat_cap K e (fun u hu => hn u (by rw [El.toks]; simp [hu])) (colB c0 g + t.text.length) [] (by simp) (by rw [colB_nil]; omega)
    rw [colB_nil] at ih
    rw [El.flat, render, colB_app, colB_app, colB_no10 _ _ ht]
    exact ⟨⟨by omega, hg, ih.1⟩, by omega⟩
  | .lst o es c, hn, c0, g, hg, hk => by
    have ho : No10 o.text := hn o (by rw [El.toks]; simp)
    have hc : No10 c.text := hn c (by rw [El.toks]; simp)
    have hne : ∀ t ∈ toksL es, No10 t.text := fun u hu => hn u (by rw [El.toks]; simp [hu])
    simp only [El.toks, wt, wt_app] at hk ⊢
    have ih := flatL_cap K es hne (colB c0 g + o.text.length) [] (by simp) (fun c hc => by simp at hc) (by simp only [List.length_nil]; omega)
    simp only [List.length_nil, Nat.add_zero] at ih
    rw [El.flat, render, render_app, render_tl (flatL es []), colB_app, colB_app, colB_app, colB_no10 _ _ ho]
    have e : colB (colB (colB c0 g + o.text.length) (render (flatL es []) [])) (render [([], c)] []) = colB (colB c0 g + o.text.length) (render (flatL es []) []) + c.text.length := by
      rw [render, render, List.nil_append, List.append_nil, colB_no10 _ _ hc]
    rw [e]
    refine ⟨⟨by omega, hg, Cap.app (no10_of (flatL_toks es []) hne) ih.1 ⟨?_, by simp, trivial⟩⟩, by omega⟩
    rw [colB_nil]; omega
theorem flatL_cap (K : Nat) : ∀ (es : List El), (∀ t ∈ toksL es, No10 t.text) → ∀ c0 g, g.length ≤ 1 → No10 g → c0 + g.length + wt (toksL es) ≤ K + 1 → Cap K c0 (flatL es g) ∧ colB c0 (render (flatL es g) []) ≤ c0 + g.length + wt (toksL es)
  | [], _, c0, g, hg, _, hk => by
    refine ⟨trivial, ?_⟩
    rw [flatL, render, colB_nil]; omega
  | e :: es, hn, c0, g, hg, hg10, hk => by
    have hne : ∀ t ∈ e.toks, No10 t.text := fun u hu => hn u (by rw [toksL]; simp [hu])
    have hns : ∀ t ∈ toksL es, No10 t.text := fun u hu => hn u (by rw [toksL]; simp [hu])
    rw [toksL, wt_app] at hk ⊢
    have h1 := El.flat_cap K e hne c0 g (by omega) (by rw [colB_no10 _ _ hg10]; omega)
    rw [colB_no10 _ _ hg10] at h1
    have h2 := flatL_cap K es hns (colB c0 (render (e.flat g) [])) [32] (by simp) (fun c hc => by simp at hc; subst hc; decide) (by simp only [List.length_singleton]; omega)
    simp only [List.length_singleton] at h2
    rw [flatL, render_app, render_tl, colB_app]
    exact ⟨Cap.app (no10_of (El.flat_toks e g) hne) h1.1 h2.1, by omega⟩
end
theorem colB_sp (c : Nat) : colB c [32] = c + 1 := rfl
theorem colB_nl (c k : Nat) : colB c (nl k) = k := by
  show colB 0 (List.replicate k 32) = k
  rw [colB_no10]
  · simp
  · intro x hx; rw [(List.mem_replicate.1 hx).2]; decide
theorem wt_pos (e : El) : 1 ≤ wt e.toks := by
  obtain ⟨r, h⟩ := e.toks_first
  rw [h, wt]; omega
theorem style_le (o : Tok) (es : List El) (ho : 0 < o.text.length) : (style o es).1 ≤ o.text.length + 1 ∨ ∃ f r, es = .leaf f :: r ∧ (style o es).1 = o.text.length + f.text.length + 1 := by
  cases es with
  | nil => left; simp [style]
  | cons e es =>
    cases e with
    | pre _ _ => left; simp [style]
    | lst _ _ _ => left; simp [style]
    | leaf t =>
      unfold style
      simp only
      split
      · split
        · left; simp only; omega
        · split
          · left; simp only; omega
          · cases es with
            | nil => left; simp
            | cons f es =>
              simp only
              split
              · exact .inr ⟨t, _, rfl, rfl⟩
              · left; simp
      · left; simp
mutual
theorem El.lay_cap (W K : Nat) : ∀ (e : El), (∀ t ∈ e.toks, No10 t.text ∧ 0 < t.text.length) → ∀ c0 g tail, g.length ≤ K + 1 → colB c0 g + 2 * wt e.toks ≤ K + 2 → Cap K c0 (e.lay W c0 g tail) ∧ colB c0 (render (e.lay W c0 g tail) []) + 2 ≤ colB c0 g + 2 * wt e.toks
  | .leaf t, hn, c0, g, tail, hg, hk => by
    have ht := hn t (by rw [El.toks]; simp)
    simp only [El.toks, wt] at hk ⊢
    rw [El.lay, render, render, List.append_nil, colB_app, colB_no10 _ _ ht.1]
    exact ⟨⟨by omega, hg, trivial⟩, by omega⟩
  | .pre t e, hn, c0, g, tail, hg, hk => by
    rw [El.lay]
    split
    · have h1 := wt_pos (.pre t e)
      have := El.flat_cap K (.pre t e) (fun u hu => (hn u hu).1) c0 g hg (by omega)
      exact ⟨this.1, by omega⟩
    · have ht := hn t (by rw [El.toks]; simp)
      simp only [El.toks, wt] at hk ⊢
      have ih := El.lay_cap W K e (fun u hu => hn u (by rw [El.toks]; simp [hu])) (colB c0 g + t.text.length) [] tail (by simp) (by rw [colB_nil]; omega)
      have h1 := wt_pos e
      rw [colB_nil] at ih
      rw [render, colB_app, colB_app, colB_no10 _ _ ht.1]
      exact ⟨⟨by omega, hg, ih.1⟩, by omega⟩
  | .lst o es c, hn, c0, g, tail, hg, hk => by
    rw [El.lay]
    split
    · have h1 := wt_pos (.lst o es c)
      have := El.flat_cap K (.lst o es c) (fun u hu => (hn u hu).1) c0 g hg (by omega)
      exact ⟨this.1, by omega⟩
    · have ho := hn o (by rw [El.toks]; simp)
      have hc := hn c (by rw [El.toks]; simp)
      have hne : ∀ t ∈ toksL es, No10 t.text ∧ 0 < t.text.length := fun u hu => hn u (by rw [El.toks]; simp [hu])
      simp only [El.toks, wt, wt_app] at hk ⊢
      generalize hst : style o es = st
      have hsl := style_le o es ho.2
      rw [hst] at hsl
      have key : ∃ X, X ≤ colB c0 g + o.text.length + 1 + 2 * wt (toksL es) ∧ colB c0 g + st.1 ≤ X ∧ Cap K (colB c0 g + o.text.length) (layL W es 0 (colB c0 g + o.text.length) (colB c0 g + st.1) st.2 (tail + 1)) ∧
          colB (colB c0 g + o.text.length) (render (layL W es 0 (colB c0 g + o.text.length) (colB c0 g + st.1) st.2 (tail + 1)) []) ≤ X := by
        rcases hsl with hsl | ⟨f, r, hes, hsl⟩
        · have ih := layL_cap W K es hne 0 (colB c0 g + o.text.length) (colB c0 g + st.1) st.2 (tail + 1) (colB c0 g + o.text.length + 1) (by omega) (by omega) (by omega)
          exact ⟨_, Nat.le_refl _, by omega, ih.1, ih.2⟩
        · subst hes
          have hf := hne f (by simp [toksL, El.toks])
          have hw : wt (toksL (El.leaf f :: r)) = f.text.length + 1 + wt (toksL r) := by simp [toksL, El.toks, wt]
          rw [hw] at hk ⊢
          have e1 : gapOf (El.leaf f) 0 (colB c0 g + st.1) st.2 = [] := rfl
          have e2 : colB (colB c0 g + o.text.length) (render [([], f)] []) = colB c0 g + o.text.length + f.text.length := by
            rw [render, render, List.nil_append, List.append_nil, colB_no10 _ _ hf.1]
          have ih := layL_cap W K r (fun u hu => hne u (by rw [toksL]; simp [hu])) 1 (colB c0 g + o.text.length + f.text.length) (colB c0 g + st.1) st.2 (tail + 1) (colB c0 g + o.text.length + f.text.length + 1) (by omega) (by omega) (by omega)
          rw [layL, e1, El.lay, e2, render_app, render_tl, colB_app, e2]
          refine ⟨colB c0 g + o.text.length + f.text.length + 1 + 2 * wt (toksL r), by omega, by omega, ?_, ih.2⟩
          refine ⟨?_, by simp, ?_⟩
          · rw [colB_nil]; omega
          · rw [colB_nil]; exact ih.1
      obtain ⟨X, hX, hsX, hcap, hend⟩ := key
      rw [render, render_app, render_tl (layL W es 0 (colB c0 g + o.text.length) (colB c0 g + st.1) st.2 (tail + 1)), colB_app, colB_app, colB_app, colB_no10 _ _ ho.1]
      generalize hY : colB (colB c0 g + o.text.length) (render (layL W es 0 (colB c0 g + o.text.length) (colB c0 g + st.1) st.2 (tail + 1)) []) = Y at hend
      have hcg : colB Y (closeGap es (colB c0 g + st.1)) ≤ X ∧ (closeGap es (colB c0 g + st.1)).length ≤ X + 1 := by
        rcases closeGap_form es (colB c0 g + st.1) with h | h | ⟨k, h⟩
        · rw [h, colB_nil]; exact ⟨hend, by simp⟩
        · exfalso
          unfold closeGap at h
          split at h
          · split at h <;> simp [nl] at h
          · simp at h
        · have hk' : closeGap es (colB c0 g + st.1) = nl (colB c0 g + st.1) := by
            unfold closeGap at h ⊢
            split at h
            · split at h
              · rename_i hc; simp [hc]
              · simp [nl] at h
            · simp [nl] at h
          rw [hk', colB_nl]
          refine ⟨hsX, ?_⟩
          simp only [nl, List.length_cons, List.length_replicate]; omega
      have e3 : colB Y (render [(closeGap es (colB c0 g + st.1), c)] []) = colB Y (closeGap es (colB c0 g + st.1)) + c.text.length := by
        rw [render, render, List.append_nil, colB_app, colB_no10 _ _ hc.1]
      rw [e3]
      refine ⟨⟨by omega, hg, Cap.app (no10_of (layL_toks W es _ _ _ _ _) (fun u hu => (hne u hu).1)) hcap ?_⟩, by omega⟩
      rw [hY]
      exact ⟨by omega, by omega, trivial⟩
theorem layL_cap (W K : Nat) : ∀ (es : List El), (∀ t ∈ toksL es, No10 t.text ∧ 0 < t.text.length) → ∀ n cur c beside last X, cur ≤ X → c ≤ X → X + 2 * wt (toksL es) ≤ K + 1 → Cap K cur (layL W es n cur c beside last) ∧ colB cur (render (layL W es n cur c beside last) []) ≤ X + 2 * wt (toksL es)
  | [], _, n, cur, c, beside, last, X, h1, h2, h3 => by
    refine ⟨trivial, ?_⟩
    rw [layL, render, colB_nil]; omega
  | e :: es, hn, n, cur, c, beside, last, X, h1, h2, h3 => by
    have hne : ∀ t ∈ e.toks, No10 t.text ∧ 0 < t.text.length := fun u hu => hn u (by rw [toksL]; simp [hu])
    have hns : ∀ t ∈ toksL es, No10 t.text ∧ 0 < t.text.length := fun u hu => hn u (by rw [toksL]; simp [hu])
    have hwp := wt_pos e
    rw [toksL, wt_app] at h3 ⊢
    have hg : colB cur (gapOf e n c beside) ≤ X + 1 ∧ (gapOf e n c beside).length ≤ X + 1 := by
      unfold gapOf
      split
      · rw [colB_nil]; exact ⟨by omega, by simp⟩
      · split
        · rw [colB_sp]; exact ⟨by omega, by simp⟩
        · rw [colB_nl]
          refine ⟨by omega, ?_⟩
          simp only [nl, List.length_cons, List.length_replicate]; omega
    have ih := El.lay_cap W K e hne cur (gapOf e n c beside) (tailOf es last) (by omega) (by omega)
    have is := layL_cap W K es hns (n + 1) (colB cur (render (e.lay W cur (gapOf e n c beside) (tailOf es last)) [])) c beside last (X + 2 * wt e.toks) (by omega) (by omega) (by omega)
    rw [layL, render_app, render_tl (e.lay W cur (gapOf e n c beside) (tailOf es last)) (render _ []), colB_app]
    exact ⟨Cap.app (no10_of (El.lay_toks W e _ _ _) (fun u hu => (hne u hu).1)) ih.1 is.1, by omega⟩
end
end Sc
end Go.Proofs.YtigdfhcmhidhbaaDoor
