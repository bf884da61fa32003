/- Plain laws: how long a text that is laid out can be. No program here. -/
/- Plain laws: for the walks of the second layout. No program here. -/
/- Plain laws: the flat text as it grows. No program here. -/
/- Plain: the styles' words. -/
import Derived.Test.YtoieklacpkahbaaDoorPlainP
namespace Go.Proofs.YtoieklacpkahbaaDoor
open Go.RowKit
namespace Sc
/-- What tokens weigh. -/
def wt : List Tok → Nat
  | [] => 0
  | t :: ts => t.text.length + 1 + wt ts
theorem wt_app (a b : List Tok) : wt (a ++ b) = wt a + wt b := by
  induction a with
  | nil => simp [wt]
  | cons t a ih => simp only [List.cons_append, wt, ih]; omega
/-- No column beyond K. -/
def Cap (K : Nat) : Nat → List (List UInt8 × Tok) → Prop
  | _, [] => True
  | c, (g, t) :: ps => colB c g + t.text.length ≤ K ∧ g.length ≤ K + 1 ∧ Cap K (colB c g + t.text.length) ps
theorem Cap.app {K c : Nat} {a b : List (List UInt8 × Tok)} (hn : ∀ q ∈ a, No10 q.2.text) (h : Cap K c a) (k : Cap K (colB c (render a [])) b) : Cap K c (a ++ b) := by
  induction a generalizing c with
  | nil => exact k
  | cons q a ih =>
    obtain ⟨g, t⟩ := q
    refine ⟨h.1, h.2.1, ih (fun q hq => hn q (List.mem_cons_of_mem _ hq)) h.2.2 ?_⟩
    rw [render, colB_app, colB_app, colB_no10 _ t.text (hn _ (List.mem_cons_self ..))] at k
    exact k
theorem Cap.len {K c : Nat} {ps : List (List UInt8 × Tok)} (h : Cap K c ps) : (render ps []).length ≤ ps.length * (2 * K + 1) := by
  induction ps generalizing c with
  | nil => simp [render]
  | cons q ps ih =>
    obtain ⟨g, t⟩ := q
    have := ih h.2.2
    have h1 := h.1
    have h2 := h.2.1
    rw [render, List.length_append, List.length_append, List.length_cons, Nat.add_mul]
    omega
theorem no10_of {ps : List (List UInt8 × Tok)} {ts : List Tok} (h : ps.map (·.2) = ts) (hn : ∀ t ∈ ts, No10 t.text) : ∀ q ∈ ps, No10 q.2.text := fun q hq => hn q.2 (by rw [← h]; exact List.mem_map.2 ⟨q, hq, rfl⟩)
mutual
theorem El.flat_cap (K : Nat) : ∀ (e : El), (∀ t ∈ e.toks, No10 t.text) → ∀ c0 g, g.length ≤ K + 1 → colB c0 g + wt e.toks ≤ K + 1 → Cap K c0 (e.flat g) ∧ colB c0 (render (e.flat g) []) + 1 ≤ colB c0 g + wt e.toks
  | .leaf t, hn, c0, g, hg, hk => by
    have ht : No10 t.text := hn t (by rw [El.toks]; simp)
    simp only [El.toks, wt] at hk ⊢
    rw [El.flat, render, render, List.append_nil, colB_app, colB_no10 _ _ ht]
    exact ⟨⟨by omega, hg, trivial⟩, by omega⟩
  | .pre t e, hn, c0, g, hg, hk => by
    have ht : No10 t.text := hn t (by rw [El.toks]; simp)
    simp only [El.toks, wt] at hk ⊢
    have ih := El.flat_cap K e (fun u hu => hn u (by rw [El.toks]; simp [hu])) (colB c0 g + t.text.length) [] (by simp) (by rw [colB_nil]; omega)
    rw [colB_nil] at ih
    rw [El.flat, render, colB_app, colB_app, colB_no10 _ _ ht]
    exact ⟨⟨by omega, hg, ih.1⟩, by omega⟩
  | .lst o es c, hn, c0, g, hg, hk => by
    have ho : No10 o.text := hn o (by rw [El.toks]; simp)
    have hc : No10 c.text := hn c (by rw [El.toks]; simp)
    have hne : ∀ t ∈ toksL es, No10 t.text := fun u hu => hn u (by rw [El.toks]; simp [hu])
    simp only [El.toks, wt, wt_app] at hk ⊢
    have ih := flatL_cap K es hne (colB c0 g + o.text.length) [] (by simp) (fun c hc => by simp at hc) (by simp only [List.length_nil]; omega)
    simp only [List.length_nil, Nat.add_zero] at ih
    rw [El.flat, render, render_app, render_tl (flatL es []), colB_app, colB_app, colB_app, colB_no10 _ _ ho]
    have e : colB (colB (colB c0 g + o.text.length) (render (flatL es []) [])) (render [([], c)] []) = colB (colB c0 g + o.text.length) (render (flatL es []) []) + c.text.length := by
      rw [render, render, List.nil_append, List.append_nil, colB_no10 _ _ hc]
    rw [e]
    refine ⟨⟨by omega, hg, Cap.app (no10_of (flatL_toks es []) hne) ih.1 ⟨?_, by simp, trivial⟩⟩, by omega⟩
    rw [colB_nil]; omega
theorem flatL_cap (K : Nat) : ∀ (es : List El), (∀ t ∈ toksL es, No10 t.text) → ∀ c0 g, g.length ≤ 1 → No10 g → c0 + g.length + wt (toksL es) ≤ K + 1 → Cap K c0 (flatL es g) ∧ colB c0 (render (flatL es g) []) ≤ c0 + g.length + wt (toksL es)
  | [], _, c0, g, hg, _, hk => by
    refine ⟨trivial, ?_⟩
    rw [flatL, render, colB_nil]; omega
  | e :: es, hn, c0, g, hg, hg10, hk => by
    have hne : ∀ t ∈ e.toks, No10 t.text := fun u hu => hn u (by rw [toksL]; simp [hu])
    have hns : ∀ t ∈ toksL es, No10 t.text := fun u hu => hn u (by rw [toksL]; simp [hu])
    rw [toksL, wt_app] at hk ⊢
    have h1 := El.flat_cap K e hne c0 g (by omega) (by rw [colB_no10 _ _ hg10]; omega)
    rw [colB_no10 _ _ hg10] at h1
    have h2 := flatL_cap K es hns (colB c0 (render (e.flat g) [])) [32] (by simp) (fun c hc => by simp at hc; subst hc; decide) (by simp only [List.length_singleton]; omega)
    simp only [List.length_singleton] at h2
    rw [flatL, render_app, render_tl, colB_app]
    exact ⟨Cap.app (no10_of (El.flat_toks e g) hne) h1.1 h2.1, by omega⟩
end
theorem colB_sp (c : Nat) : colB c [32] = c + 1 := rfl
theorem colB_nl (c k : Nat) : colB c (nl k) = k := by
  show colB 0 (List.replicate k 32) = k
  rw [colB_no10]
  · simp
  · intro x hx; rw [(List.mem_replicate.1 hx).2]; decide
theorem wt_pos (e : El) : 1 ≤ wt e.toks := by
  obtain ⟨r, h⟩ := e.toks_first
  rw [h, wt]; omega
theorem style_le (o : Tok) (es : List El) (ho : 0 < o.text.length) : (style o es).1 ≤ o.text.length + 1 ∨ ∃ f r, es = .leaf f :: r ∧ (style o es).1 = o.text.length + f.text.length + 1 := by
  cases es with
  | nil => left; simp [style]
  | cons e es =>
    cases e with
    | pre _ _ => left; simp [style]
    | lst _ _ _ => left; simp [style]
    | leaf t =>
      unfold style
      simp only
      split
      · split
        · left; simp only; omega
        · split
          · left; simp only; omega
          · cases es with
            | nil => left; simp
            | cons f es =>
              simp only
              split
              · exact .inr ⟨t, _, rfl, rfl⟩
              · left; simp
      · left; simp
mutual
theorem El.lay_cap (W K : Nat) : ∀ (e : El), (∀ t ∈ e.toks, No10 t.text ∧ 0 < t.text.length) → ∀ c0 g tail, g.length ≤ K + 1 → colB c0 g + 2 * wt e.toks ≤ K + 2 → Cap K c0 (e.lay W c0 g tail) ∧ colB c0 (render (e.lay W c0 g tail) []) + 2 ≤ colB c0 g + 2 * wt e.toks
  | .leaf t, hn, c0, g, tail, hg, hk => by
    have ht := hn t (by rw [El.toks]; simp)
    simp only [El.toks, wt] at hk ⊢
    rw [El.lay, render, render, List.append_nil, colB_app, colB_no10 _ _ ht.1]
    exact ⟨⟨by omega, hg, trivial⟩, by omega⟩
  | .pre t e, hn, c0, g, tail, hg, hk => by
    rw [El.lay]
    split
    · have h1 := wt_pos (.pre t e)
      have := El.flat_cap K (.pre t e) (fun u hu => (hn u hu).1) c0 g hg (by omega)
      exact ⟨this.1, by omega⟩
    · have ht := hn t (by rw [El.toks]; simp)
      simp only [El.toks, wt] at hk ⊢
      have ih := El.lay_cap W K e (fun u hu => hn u (by rw [El.toks]; simp [hu])) (colB c0 g + t.text.length) [] tail (by simp) (by rw [colB_nil]; omega)
      have h1 := wt_pos e
      rw [colB_nil] at ih
      rw [render, colB_app, colB_app, colB_no10 _ _ ht.1]
      exact ⟨⟨by omega, hg, ih.1⟩, by omega⟩
  | .lst o es c, hn, c0, g, tail, hg, hk => by
    rw [El.lay]
    split
    · have h1 := wt_pos (.lst o es c)
      have := El.flat_cap K (.lst o es c) (fun u hu => (hn u hu).1) c0 g hg (by omega)
      exact ⟨this.1, by omega⟩
    · have ho := hn o (by rw [El.toks]; simp)
      have hc := hn c (by rw [El.toks]; simp)
      have hne : ∀ t ∈ toksL es, No10 t.text ∧ 0 < t.text.length := fun u hu => hn u (by rw [El.toks]; simp [hu])
      simp only [El.toks, wt, wt_app] at hk ⊢
      generalize hst : style o es = st
      have hsl := style_le o es ho.2
      rw [hst] at hsl
      have key : ∃ X, X ≤ colB c0 g + o.text.length + 1 + 2 * wt (toksL es) ∧ colB c0 g + st.1 ≤ X ∧ Cap K (colB c0 g + o.text.length) (layL W es 0 (colB c0 g + o.text.length) (colB c0 g + st.1) st.2 (tail + 1)) ∧
          colB (colB c0 g + o.text.length) (render (layL W es 0 (colB c0 g + o.text.length) (colB c0 g + st.1) st.2 (tail + 1)) []) ≤ X := by
        rcases hsl with hsl | ⟨f, r, hes, hsl⟩
        · have ih := layL_cap W K es hne 0 (colB c0 g + o.text.length) (colB c0 g + st.1) st.2 (tail + 1) (colB c0 g + o.text.length + 1) (by omega) (by omega) (by omega)
          exact ⟨_, Nat.le_refl _, by omega, ih.1, ih.2⟩
        · subst hes
          have hf := hne f (by simp [toksL, El.toks])
          have hw : wt (toksL (El.leaf f :: r)) = f.text.length + 1 + wt (toksL r) := by simp [toksL, El.toks, wt]
          rw [hw] at hk ⊢
          have e1 : gapOf (El.leaf f) 0 (colB c0 g + st.1) st.2 = [] := rfl
          have e2 : colB (colB c0 g + o.text.length) (render [([], f)] []) = colB c0 g + o.text.length + f.text.length := by
            rw [render, render, List.nil_append, List.append_nil, colB_no10 _ _ hf.1]
          have ih := layL_cap W K r (fun u hu => hne u (by rw [toksL]; simp [hu])) 1 (colB c0 g + o.text.length + f.text.length) (colB c0 g + st.1) st.2 (tail + 1) (colB c0 g + o.text.length + f.text.length + 1) (by omega) (by omega) (by omega)
          rw [layL, e1, El.lay, e2, render_app, render_tl, colB_app, e2]
          refine ⟨colB c0 g + o.text.length + f.text.length + 1 + 2 * wt (toksL r), by omega, by omega, ?_, ih.2⟩
          refine ⟨?_, by simp, ?_⟩
          · rw [colB_nil]; omega
          · rw [colB_nil]; exact ih.1
      obtain ⟨X, hX, hsX, hcap, hend⟩ := key
      rw [render, render_app, render_tl (layL W es 0 (colB c0 g + o.text.length) (colB c0 g + st.1) st.2 (tail + 1)), colB_app, colB_app, colB_app, colB_no10 _ _ ho.1]
      generalize hY : colB (colB c0 g + o.text.length) (render (layL W es 0 (colB c0 g + o.text.length) (colB c0 g + st.1) st.2 (tail + 1)) []) = Y at hend
      have hcg : colB Y (closeGap es (colB c0 g + st.1)) ≤ X ∧ (closeGap es (colB c0 g + st.1)).length ≤ X + 1 := by
        rcases closeGap_form es (colB c0 g + st.1) with h | h | ⟨k, h⟩
        · rw [h, colB_nil]; exact ⟨hend, by simp⟩
        · exfalso
          unfold closeGap at h
          split at h
          · split at h <;> simp [nl] at h
          · simp at h
        · have hk' : closeGap es (colB c0 g + st.1) = nl (colB c0 g + st.1) := by
            unfold closeGap at h ⊢
            split at h
            · split at h
              · rename_i hc; simp [hc]
              · simp [nl] at h
            · simp [nl] at h
          rw [hk', colB_nl]
          refine ⟨hsX, ?_⟩
          simp only [nl, List.length_cons, List.length_replicate]; omega
      have e3 : colB Y (render [(closeGap es (colB c0 g + st.1), c)] []) = colB Y (closeGap es (colB c0 g + st.1)) + c.text.length := by
        rw [render, render, List.append_nil, colB_app, colB_no10 _ _ hc.1]
      rw [e3]
      refine ⟨⟨by omega, hg, Cap.app (no10_of (layL_toks W es _ _ _ _ _) (fun u hu => (hne u hu).1)) hcap ?_⟩, by omega⟩
      rw [hY]
      exact ⟨by omega, by omega, trivial⟩
theorem layL_cap (W K : Nat) : ∀ (es : List El), (∀ t ∈ toksL es, No10 t.text ∧ 0 < t.text.length) → ∀ n cur c beside last X, cur ≤ X → c ≤ X → X + 2 * wt (toksL es) ≤ K + 1 → Cap K cur (layL W es n cur c beside last) ∧ colB cur (render (layL W es n cur c beside last) []) ≤ X + 2 * wt (toksL es)
  | [], _, n, cur, c, beside, last, X, h1, h2, h3 => by
    refine ⟨trivial, ?_⟩
    rw [layL, render, colB_nil]; omega
  | e :: es, hn, n, cur, c, beside, last, X, h1, h2, h3 => by
    have hne : ∀ t ∈ e.toks, No10 t.text ∧ 0 < t.text.length := fun u hu => hn u (by rw [toksL]; simp [hu])
    have hns : ∀ t ∈ toksL es, No10 t.text ∧ 0 < t.text.length := fun u hu => hn u (by rw [toksL]; simp [hu])
    have hwp := wt_pos e
    rw [toksL, wt_app] at h3 ⊢
    have hg : colB cur (gapOf e n c beside) ≤ X + 1 ∧ (gapOf e n c beside).length ≤ X + 1 := by
      unfold gapOf
      split
      · rw [colB_nil]; exact ⟨by omega, by simp⟩
      · split
        · rw [colB_sp]; exact ⟨by omega, by simp⟩
        · rw [colB_nl]
          refine ⟨by omega, ?_⟩
          simp only [nl, List.length_cons, List.length_replicate]; omega
    have ih := El.lay_cap W K e hne cur (gapOf e n c beside) (tailOf es last) (by omega) (by omega)
    have is := layL_cap W K es hns (n + 1) (colB cur (render (e.lay W cur (gapOf e n c beside) (tailOf es last)) [])) c beside last (X + 2 * wt e.toks) (by omega) (by omega) (by omega)
    rw [layL, render_app, render_tl (e.lay W cur (gapOf e n c beside) (tailOf es last)) (render _ []), colB_app]
    exact ⟨Cap.app (no10_of (El.lay_toks W e _ _ _) (fun u hu => (hne u hu).1)) ih.1 is.1, by omega⟩
end
end Sc
end Go.Proofs.YtoieklacpkahbaaDoor
namespace Go.Proofs.YtoieklacpkahbaaDoor
open Go.RowKit
namespace Sc
/-- The token at a place of a row, of which only the keys are known. -/
theorem tok_at {ts : List Tok} {i : Nat} {t : Tok} {r : List Tok} (h : (ts.drop i).map erase = t :: r) : ∃ hi : i < ts.length, ts[i].kind = t.kind ∧ ts[i].text = t.text ∧ ts[i].behind = t.behind ∧ (ts.drop (i + 1)).map erase = r := by
  have hi : i < ts.length := by
    by_cases hi : i < ts.length
    · exact hi
    · rw [List.drop_eq_nil_of_le (by omega)] at h; simp at h
  rw [List.drop_eq_getElem_cons hi, List.map_cons] at h
  injection h with h1 h2
  exact ⟨hi, by rw [← h1]; rfl, by rw [← h1]; rfl, by rw [← h1]; rfl, h2⟩
theorem tok_next {ts : List Tok} {i : Nat} {a b : List Tok} (h : (ts.drop i).map erase = a ++ b) : (ts.drop (i + a.length)).map erase = b := by
  induction a generalizing i with
  | nil => simpa using h
  | cons t a ih =>
    obtain ⟨_, _, _, _, h2⟩ := tok_at h
    have := ih h2
    rw [List.length_cons, show i + (a.length + 1) = i + 1 + a.length by omega]; exact this
theorem tok_get {ts : List Tok} {i : Nat} {a b : List Tok} (h : (ts.drop i).map erase = a ++ b) (j : Nat) (hj : j < a.length) : ∃ hi : i + j < ts.length, ts[i + j].kind = a[j].kind ∧ ts[i + j].text = a[j].text ∧ ts[i + j].behind = a[j].behind := by
  have e : a = a.take j ++ a[j] :: a.drop (j + 1) := by rw [← List.drop_eq_getElem_cons hj, List.take_append_drop]
  have hl : (a.take j).length = j := by rw [List.length_take]; omega
  rw [e, List.append_assoc] at h
  have := tok_next h
  rw [hl, List.cons_append] at this
  obtain ⟨hi, h1, h2, h3, _⟩ := tok_at this
  exact ⟨hi, h1, h2, h3⟩
def stp (t : Tok) : Int := (if t.kind = 2 then 1 else 0) - (if t.kind = 3 then 1 else 0)
theorem net_take (T : List Tok) (j : Nat) (hj : j < T.length) : net (T.take (j + 1)) = net (T.take j) + stp T[j] := by
  rw [List.take_succ_eq_append_getElem hj, net_app]
  simp only [net, stp]; omega
theorem net_le (T : List Tok) : net T ≤ T.length ∧ -(T.length : Int) ≤ net T := by
  induction T with
  | nil => simp [net]
  | cons t T ih =>
    simp only [net, List.length_cons]
    constructor
    · split <;> split <;> omega
    · split <;> split <;> omega
theorem lst_net_all {o c : Tok} {es : List El} (h : (El.lst o es c).WF) : net (El.lst o es c).toks = 0 := (El.net_ok _ h).1
theorem colB_take (l : List UInt8) (m : Nat) (hm : m < l.length) : colB 0 (l.take (m + 1)) = if l[m] = 10 then 0 else colB 0 (l.take m) + 1 := by
  rw [List.take_succ_eq_append_getElem hm, colB_snoc]
end Sc
end Go.Proofs.YtoieklacpkahbaaDoor
namespace Go.Proofs.YtoieklacpkahbaaDoor
open Go.RowKit
namespace Sc
/-- The flat text of tokens. -/
def flP : List Tok → List (List UInt8 × Tok)
  | [] => []
  | t :: ts => ([], t) :: fl t ts
/-- The flat text of the first k. -/
def flS (T : List Tok) (k : Nat) : List UInt8 := render ((flP T).take k) []
theorem fl_length : ∀ (p : Tok) (ts : List Tok), (fl p ts).length = ts.length
  | _, [] => rfl
  | p, t :: ts => by rw [fl, List.length_cons, List.length_cons, fl_length t ts]
theorem flP_length (T : List Tok) : (flP T).length = T.length := by
  cases T with
  | nil => rfl
  | cons t ts => rw [flP, List.length_cons, List.length_cons, fl_length]
theorem fl_get : ∀ (p : Tok) (ts : List Tok) (k : Nat) (h : k < ts.length), (fl p ts)[k]? = some (flatGap ((p :: ts)[k]'(by simp; omega)) ts[k], ts[k])
  | _, [], k, h => by simp at h
  | p, t :: ts, 0, _ => by simp [fl]
  | p, t :: ts, k + 1, h => by
    rw [fl, List.getElem?_cons_succ, fl_get t ts k (by simpa using h)]
    simp
theorem flP_get (T : List Tok) (k : Nat) (h : k + 1 < T.length) : (flP T)[k + 1]? = some (flatGap T[k] T[k + 1], T[k + 1]) := by
  cases T with
  | nil => simp at h
  | cons t ts => rw [flP, List.getElem?_cons_succ, fl_get t ts k (by simpa using h)]; simp
theorem flS_zero (T : List Tok) : flS T 0 = [] := rfl
theorem flS_one (T : List Tok) (h : 0 < T.length) : flS T 1 = T[0].text := by
  cases T with
  | nil => simp at h
  | cons t ts => simp [flS, flP, render]
theorem flS_next (T : List Tok) (k : Nat) (h : k + 1 < T.length) : flS T (k + 2) = flS T (k + 1) ++ (flatGap T[k] T[k + 1] ++ T[k + 1].text) := by
  have hg := flP_get T k h
  have hl : k + 1 < (flP T).length := by rw [flP_length]; omega
  rw [List.getElem?_eq_getElem hl] at hg
  injection hg with hg
  unfold flS
  rw [List.take_succ_eq_append_getElem hl, render_app, render_tl, hg]
  simp [render]
theorem wt_take (T : List Tok) (k : Nat) : wt (T.take k) ≤ wt T := by
  conv => rhs; rw [← List.take_append_drop k T, wt_app]
  omega
theorem flS_len (T : List Tok) : ∀ k, k ≤ T.length → (flS T k).length ≤ wt (T.take k)
  | 0, _ => by simp [flS_zero]
  | 1, h => by
    rw [flS_one T (by omega), List.take_succ_eq_append_getElem (by omega), wt_app]
    simp [wt]
  | k + 2, h => by
    have := flS_len T (k + 1) (by omega)
    rw [flS_next T k (by omega), List.take_succ_eq_append_getElem (by omega : k + 1 < T.length), wt_app]
    simp only [wt, List.length_append]
    have hg : (flatGap T[k] T[k + 1]).length ≤ 1 := by unfold flatGap; split <;> simp
    omega
theorem flS_all (e : El) (hw : e.WF) : flS e.toks e.toks.length = render (e.flat []) [] := by
  obtain ⟨r, hr⟩ := e.toks_first
  unfold flS
  rw [List.take_of_length_le (by rw [flP_length]; omega), El.flat_fl e hw [] r hr, hr, flP]
/-- Is there a comment among them? -/
def hasC (T : List Tok) : Bool := T.any (fun t => t.kind == 5)
theorem hasC_com (e : El) : hasC e.toks = e.com := rfl
theorem hasC_hit (T : List Tok) (k : Nat) (h : k < T.length) (h5 : T[k].kind = 5) : hasC T = true := by
  unfold hasC; exact List.any_eq_true.2 ⟨T[k], List.getElem_mem h, by simp [h5]⟩
theorem hasC_no (T : List Tok) (h : ∀ k (hk : k < T.length), T[k].kind ≠ 5) : hasC T = false := by
  unfold hasC
  rw [List.any_eq_false]
  intro t ht
  obtain ⟨k, hk, rfl⟩ := List.getElem_of_mem ht
  simpa using h k hk
end Sc
end Go.Proofs.YtoieklacpkahbaaDoor
namespace Go.Proofs.YtoieklacpkahbaaDoor
open Go.RowKit
def formsB : List ByteArray := [⟨#[100, 101, 102, 105, 110, 101]⟩, ⟨#[108, 97, 109, 98, 100, 97]⟩, ⟨#[108, 101, 116]⟩, ⟨#[108, 101, 116, 42]⟩, ⟨#[108, 101, 116, 114, 101, 99]⟩, ⟨#[119, 104, 101, 110]⟩, ⟨#[117, 110, 108, 101, 115, 115]⟩]
def blocksB : List ByteArray := [⟨#[98, 101, 103, 105, 110]⟩, ⟨#[99, 111, 110, 100]⟩, ⟨#[101, 108, 115, 101]⟩, ⟨#[100, 111]⟩]
namespace Sc
theorem El.isB_first_eq {e : El} (hw : e.WF) : e.isB = ((e.first.kind == 5) && e.first.behind) := by
  cases e with
  | leaf t => rfl
  | pre t e => have := hw.1; simp [El.isB, El.first, this]
  | lst o es c => have := hw.1; simp [El.isB, El.first, this]
theorem El.isC_first_eq {e : El} (hw : e.WF) : e.isC = (e.first.kind == 5) := by
  cases e with
  | leaf t => rfl
  | pre t e => have := hw.1; simp [El.isC, El.first, this]
  | lst o es c => have := hw.1; simp [El.isC, El.first, this]
theorem formsB_any (x : List UInt8) : formsB.any (fun y => y.toList == (⟨x.toArray⟩ : ByteArray).toList) = decide (x ∈ forms) := by
  rw [ByteArray.toList_mk]
  have e : formsB.map (·.toList) = forms := by
    simp only [formsB, List.map_cons, List.map_nil, ByteArray.toList_eq]; rfl
  rw [← e]
  induction formsB with
  | nil => simp
  | cons y ys ih =>
    rw [List.any_cons, ih, List.map_cons]
    by_cases h : y.toList = x
    · simp [h]
    · have : ¬ x = y.toList := fun e => h e.symm
      simp [h, this]
theorem blocksB_any (x : List UInt8) : blocksB.any (fun y => y.toList == (⟨x.toArray⟩ : ByteArray).toList) = decide (x ∈ blocks) := by
  rw [ByteArray.toList_mk]
  have e : blocksB.map (·.toList) = blocks := by
    simp only [blocksB, List.map_cons, List.map_nil, ByteArray.toList_eq]; rfl
  rw [← e]
  induction blocksB with
  | nil => simp
  | cons y ys ih =>
    rw [List.any_cons, ih, List.map_cons]
    by_cases h : y.toList = x
    · simp [h]
    · have : ¬ x = y.toList := fun e => h e.symm
      simp [h, this]
theorem style_not (o : Tok) (es : List El) (h : ∀ f r, es = .leaf f :: r → f.kind ≠ 1) : style o es = (o.text.length, false) := by
  cases es with
  | nil => rfl
  | cons e es =>
    cases e with
    | pre _ _ => rfl
    | lst _ _ _ => rfl
    | leaf f =>
      have := h f es rfl
      unfold style
      simp only
      rw [if_neg this]
/-- The style by the booleans that the walk takes. -/
theorem style_leafs (o f : Tok) (r : List El) (sk : Int) (h1 : f.kind = 1) (hw : WFL r) (hsk : (r = [] ∧ sk = 3) ∨ ∃ e r', r = e :: r' ∧ sk = e.first.kind) :
    (if (o.text == [40]) && decide (f.text ∈ forms) then ((2 : Int), sk != 5) else if (o.text == [40]) && decide (f.text ∈ blocks) then (2, false) else if !(f.text.take 2 == [35, 124]) && sk != 5 && sk != 3 then ((o.text.length : Int) + f.text.length + 1, true) else ((o.text.length : Int), false))
      = (((style o (.leaf f :: r)).1 : Int), (style o (.leaf f :: r)).2) := by
  unfold style
  simp only
  rw [if_pos h1]
  by_cases c1 : o.text = [40] ∧ f.text ∈ forms
  · rw [if_pos (by simp [c1]), if_pos c1]
    rcases hsk with ⟨rfl, rfl⟩ | ⟨e, r', rfl, rfl⟩
    · rfl
    · simp only
      rw [El.isC_first_eq hw.1]; rfl
  · rw [if_neg (by simpa using c1), if_neg c1]
    by_cases c2 : o.text = [40] ∧ f.text ∈ blocks
    · rw [if_pos (by simp [c2]), if_pos c2]; rfl
    · rw [if_neg (by simpa using c2), if_neg c2]
      rcases hsk with ⟨rfl, rfl⟩ | ⟨e, r', rfl, rfl⟩
      · simp
      · have h3 := El.first_kind hw.1
        simp only
        rw [El.isC_first_eq hw.1]
        by_cases c3 : f.text.take 2 = [35, 124]
        · simp [c3]
        · by_cases c5 : e.first.kind = 5
          · simp [c5]
          · simp [c3, c5, h3]
end Sc
end Go.Proofs.YtoieklacpkahbaaDoor
