/- Plain laws: a line that is too long has no list of three elements on it. No program here. -/
/- Plain laws: other blanks; where the tokens of what is laid out stand. No program here. -/
/- Plain laws: how the second layout sees elements: as ranges of tokens. No program here. -/
import Derived.Test.YtoieklacpkahbaaDoorPlainZ
namespace Go.Proofs.YtoieklacpkahbaaDoor
open Go.RowKit
namespace Sc
mutual
/-- L is in e, with the tokens P ahead of it and Q behind it. -/
inductive Occ : El → List Tok → El → List Tok → Prop
  | here (e : El) : Occ e [] e []
  | pre {t : Tok} {e : El} {P : List Tok} {L : El} {Q : List Tok} : Occ e P L Q → Occ (.pre t e) (t :: P) L Q
  | lst {o : Tok} {es : List El} {c : Tok} {P : List Tok} {L : El} {Q : List Tok} : OccL es P L Q → Occ (.lst o es c) (o :: P) L (Q ++ [c])
inductive OccL : List El → List Tok → El → List Tok → Prop
  | head {e : El} {es : List El} {P : List Tok} {L : El} {Q : List Tok} : Occ e P L Q → OccL (e :: es) P L (Q ++ toksL es)
  | tail {e : El} {es : List El} {P : List Tok} {L : El} {Q : List Tok} : OccL es P L Q → OccL (e :: es) (e.toks ++ P) L Q
end
mutual
theorem Occ.toks : ∀ {e : El} {P : List Tok} {L : El} {Q : List Tok}, Occ e P L Q → e.toks = P ++ (L.toks ++ Q)
  | _, _, _, _, .here e => by simp
  | _, _, _, _, .pre h => by rw [El.toks, h.toks]; simp
  | _, _, _, _, .lst h => by rw [El.toks, h.toks]; simp
theorem OccL.toks : ∀ {es : List El} {P : List Tok} {L : El} {Q : List Tok}, OccL es P L Q → toksL es = P ++ (L.toks ++ Q)
  | _, _, _, _, .head h => by rw [toksL, h.toks]; simp
  | _, _, _, _, .tail h => by rw [toksL, h.toks]; simp
end
mutual
/-- Where a list begins there is one. -/
theorem El.occ : ∀ (e : El), e.WF → ∀ i t, e.toks[i]? = some t → t.kind = 2 → ∃ P es c Q, Occ e P (.lst t es c) Q ∧ P.length = i
  | .leaf u, hw, i, t, h, h2 => by
    rw [El.toks] at h
    have : t = u := by have := List.mem_of_getElem? h; simpa using this
    subst this
    have : t.kind = 1 ∨ t.kind = 5 := hw
    omega
  | .pre u e, hw, i, t, h, h2 => by
    rw [El.toks] at h
    cases i with
    | zero => simp at h; subst h; have := hw.1; omega
    | succ i =>
      simp at h
      obtain ⟨P, es, c, Q, h3, h4⟩ := El.occ e hw.2.2 i t h h2
      exact ⟨_, _, _, _, .pre h3, by simp [h4]⟩
  | .lst o es c, hw, i, t, h, h2 => by
    rw [El.toks] at h
    cases i with
    | zero => simp at h; subst h; exact ⟨_, _, _, _, .here _, rfl⟩
    | succ i =>
      simp at h
      by_cases hi : i < (toksL es).length
      · rw [List.getElem?_append_left hi] at h
        obtain ⟨P, es', c', Q, h3, h4⟩ := occL es hw.2.2 i t h h2
        exact ⟨_, _, _, _, .lst h3, by simp [h4]⟩
      · rw [List.getElem?_append_right (by omega)] at h
        have : t = c := by have := List.mem_of_getElem? h; simpa using this
        subst this
        have := hw.2.1; omega
theorem occL : ∀ (es : List El), WFL es → ∀ i t, (toksL es)[i]? = some t → t.kind = 2 → ∃ P es' c Q, OccL es P (.lst t es' c) Q ∧ P.length = i
  | [], _, i, t, h, _ => by rw [toksL] at h; simp at h
  | e :: es, hw, i, t, h, h2 => by
    rw [toksL] at h
    by_cases hi : i < e.toks.length
    · rw [List.getElem?_append_left hi] at h
      obtain ⟨P, es', c, Q, h3, h4⟩ := El.occ e hw.1 i t h h2
      exact ⟨_, _, _, _, .head h3, h4⟩
    · rw [List.getElem?_append_right (by omega)] at h
      obtain ⟨P, es', c, Q, h3, h4⟩ := occL es hw.2 _ t h h2
      exact ⟨_, _, _, _, .tail h3, by simp [h4]; omega⟩
end
theorem render_tl : ∀ (ps : List (List UInt8 × Tok)) (tl : List UInt8), render ps tl = render ps [] ++ tl
  | [], tl => rfl
  | (g, t) :: ps, tl => by rw [render, render, render_tl ps tl]; simp
theorem render_app : ∀ (ps qs : List (List UInt8 × Tok)) (tl : List UInt8), render (ps ++ qs) tl = render ps (render qs tl)
  | [], qs, tl => rfl
  | (g, t) :: ps, qs, tl => by rw [List.cons_append, render, render, render_app ps qs tl]
theorem colB_app (c : Nat) (x y : List UInt8) : colB c (x ++ y) = colB (colB c x) y := by unfold colB; rw [List.foldl_append]
theorem colB_no10 : ∀ (c : Nat) (x : List UInt8), No10 x → colB c x = c + x.length
  | c, [], _ => rfl
  | c, b :: x, h => by
    have : colB c (b :: x) = colB (c + 1) x := by
      show colB (if b = 10 then 0 else c + 1) x = _
      rw [if_neg (h b (List.mem_cons_self ..))]
    rw [this, colB_no10 (c + 1) x h.tail, List.length_cons]; omega
/-- The list L, laid out: it is broken, or its line is no longer than W. -/
def Nar (W c0 : Nat) (ps : List (List UInt8 × Tok)) (B : List UInt8) (P : List Tok) (L : El) (Q : List Tok) : Prop :=
  ∃ ps1 g o M ps2, ps = ps1 ++ (g, o) :: (M ++ ps2) ∧ ps1.map (·.2) = P ∧ o :: M.map (·.2) = L.toks ∧ ps2.map (·.2) = Q ∧
    (10 ∈ render M [] ∨ colB c0 (render ps1 [] ++ g) + o.text.length + (render M []).length + ((render ps2 B).takeWhile inLn).length ≤ W)
theorem Nar.lift {W c0 c1 : Nat} {pa ps pb : List (List UInt8 × Tok)} {B : List UInt8} {P : List Tok} {L : El} {Q : List Tok} (h : Nar W c1 ps (render pb B) P L Q) (hc : c1 = colB c0 (render pa [])) :
    Nar W c0 (pa ++ ps ++ pb) B (pa.map (·.2) ++ P) L (Q ++ pb.map (·.2)) := by
  obtain ⟨ps1, g, o, M, ps2, h1, h2, h3, h4, h5⟩ := h
  refine ⟨pa ++ ps1, g, o, M, ps2 ++ pb, by rw [h1]; simp, by simp [h2], h3, by simp [h4], ?_⟩
  rcases h5 with h5 | h5
  · exact .inl h5
  · right
    rw [render_app, render_tl pa, render_app ps2, List.append_assoc, colB_app, ← hc]
    exact h5
mutual
theorem El.flat_no10 : ∀ (e : El), (∀ t ∈ e.toks, No10 t.text) → ∀ g, No10 g → No10 (render (e.flat g) [])
  | .leaf t, h, g, hg => by
    rw [El.flat, render, render, List.append_nil]
    intro c hc
    rcases List.mem_append.1 hc with hc | hc
    · exact hg c hc
    · exact h t (by rw [El.toks]; simp) c hc
  | .pre t e, h, g, hg => by
    rw [El.flat, render]
    intro c hc
    rcases List.mem_append.1 hc with hc | hc
    · exact hg c hc
    · rcases List.mem_append.1 hc with hc | hc
      · exact h t (by rw [El.toks]; simp) c hc
      · exact El.flat_no10 e (fun u hu => h u (by rw [El.toks]; simp [hu])) [] (fun c hc => by simp at hc) c hc
  | .lst o es c, h, g, hg => by
    rw [El.flat, render, render_app]
    intro x hc
    rcases List.mem_append.1 hc with hc | hc
    · exact hg x hc
    · rcases List.mem_append.1 hc with hc | hc
      · exact h o (by rw [El.toks]; simp) x hc
      · rw [render_tl] at hc
        rcases List.mem_append.1 hc with hc | hc
        · exact flatL_no10 es (fun u hu => h u (by rw [El.toks]; simp [hu])) [] (fun c hc => by simp at hc) x hc
        · simp [render] at hc
          exact h c (by rw [El.toks]; simp) x hc
theorem flatL_no10 : ∀ (es : List El), (∀ t ∈ toksL es, No10 t.text) → ∀ g, No10 g → No10 (render (flatL es g) [])
  | [], _, g, _ => by rw [flatL]; intro c hc; simp [render] at hc
  | e :: es, h, g, hg => by
    rw [flatL, render_app]
    intro c hc
    rw [render_tl] at hc
    rcases List.mem_append.1 hc with hc | hc
    · exact El.flat_no10 e (fun u hu => h u (by rw [toksL]; simp [hu])) g hg c hc
    · exact flatL_no10 es (fun u hu => h u (by rw [toksL]; simp [hu])) [32] (fun c hc => by simp at hc; subst hc; decide) c hc
end
theorem flat_gap (e : El) (g : List UInt8) : ∃ r, e.flat g = (g, e.first) :: r ∧ e.flat [] = ([], e.first) :: r := by
  cases e with
  | leaf t => exact ⟨[], rfl, rfl⟩
  | pre t e => exact ⟨_, rfl, rfl⟩
  | lst o es c => exact ⟨_, rfl, rfl⟩
theorem split_map {ps : List (List UInt8 × Tok)} {P : List Tok} {o : Tok} {R Q : List Tok} (h : ps.map (·.2) = P ++ (o :: R ++ Q)) :
    ∃ ps1 g M ps2, ps = ps1 ++ (g, o) :: (M ++ ps2) ∧ ps1.map (·.2) = P ∧ M.map (·.2) = R ∧ ps2.map (·.2) = Q := by
  obtain ⟨ps1, r, h1, h2, h3⟩ := List.map_eq_append_iff.1 h
  rw [List.cons_append] at h3
  obtain ⟨x, r', h4, h5, h6⟩ := List.map_eq_cons_iff.1 h3
  obtain ⟨M, ps2, h7, h8, h9⟩ := List.map_eq_append_iff.1 h6
  refine ⟨ps1, x.1, M, ps2, ?_, h2, h8, h9⟩
  rw [h1, h4, h7, ← h5]
theorem tw_len {x B : List UInt8} (h : No10 x) : ((x ++ B).takeWhile inLn).length = x.length + (B.takeWhile inLn).length := by
  rw [List.takeWhile_append_of_pos (fun a ha => by simp [inLn, h a ha])]; simp
/-- Where it is flat. -/
theorem nar_flat {W c0 tail : Nat} {e : El} {g B : List UInt8} {P : List Tok} {L : El} {Q : List Tok} (hno : ∀ t ∈ e.toks, No10 t.text) (hf : fits W e (colB c0 g) tail = true) (hB : (B.takeWhile inLn).length = tail) (h : Occ e P L Q) :
    Nar W c0 (e.flat g) B P L Q := by
  obtain ⟨r0, hr0⟩ := L.toks_first
  have ht := El.flat_toks e g
  rw [h.toks, hr0] at ht
  obtain ⟨ps1, g', M, ps2, h1, h2, h3, h4⟩ := split_map ht
  refine ⟨ps1, g', L.first, M, ps2, h1, h2, by rw [h3, hr0], h4, .inr ?_⟩
  obtain ⟨r, hr1, hr2⟩ := flat_gap e g
  have hn := El.flat_no10 e hno [] (fun c hc => by simp at hc)
  have hfl : colB c0 g + (render (e.flat []) []).length + tail ≤ W := by
    unfold fits El.flen at hf; simp only [Bool.and_eq_true, decide_eq_true_eq] at hf; exact hf.2
  have key : ∃ y, render ps1 [] ++ g' = g ++ y ∧ render (e.flat []) [] = y ++ (L.first.text ++ (render M [] ++ render ps2 [])) := by
    rw [hr1] at h1
    cases ps1 with
    | nil =>
      simp only [List.nil_append, List.cons.injEq, Prod.mk.injEq] at h1
      refine ⟨[], by rw [h1.1.1]; simp [render], ?_⟩
      rw [hr2, h1.2, h1.1.2, render, render_app, render_tl M]
    | cons q ps1 =>
      simp only [List.cons_append, List.cons.injEq] at h1
      obtain ⟨h1a, h1b⟩ := h1
      subst h1a
      refine ⟨e.first.text ++ (render ps1 [] ++ g'), by rw [render]; simp, ?_⟩
      rw [hr2, h1b, render, render_app, render_tl ps1, render, render_app, render_tl M]; simp
  obtain ⟨y, k1, k2⟩ := key
  rw [k2] at hn hfl
  have hy : No10 y := fun c hc => hn c (List.mem_append_left _ hc)
  have hp : No10 (render ps2 []) := fun c hc => hn c (by simp [hc])
  rw [k1, colB_app, colB_no10 _ y hy, render_tl ps2 B, tw_len hp, hB]
  simp only [List.length_append] at hfl
  omega
theorem gapOf_later {e : El} {n c : Nat} {beside : Bool} (h0 : n ≠ 0) (h1 : ¬ (n = 1 ∧ beside = true)) (hB : e.isB = false) : gapOf e n c beside = nl c := by
  unfold gapOf
  rw [if_neg h0, hB, Bool.false_or, if_neg]
  simpa using h1
theorem gapOf_B {e : El} {n c : Nat} {beside : Bool} (h0 : n ≠ 0) (hB : e.isB = true) : gapOf e n c beside = [32] := by
  unfold gapOf
  rw [if_neg h0, hB, Bool.true_or, if_pos rfl]
theorem El.isB_leaf {e : El} (h : e.isB = true) : ∃ t, e = .leaf t ∧ t.kind = 5 ∧ t.behind = true := by
  cases e with
  | leaf t => simp only [El.isB, Bool.and_eq_true, beq_iff_eq] at h; exact ⟨t, rfl, h.1, h.2⟩
  | pre _ _ => cases h
  | lst _ _ _ => cases h
theorem El.isC_leaf {e : El} (h : e.isC = true) : ∃ t, e = .leaf t ∧ t.kind = 5 := by
  cases e with
  | leaf t => simp only [El.isC, beq_iff_eq] at h; exact ⟨t, rfl, h⟩
  | pre _ _ => cases h
  | lst _ _ _ => cases h
/-- Behind a comment no comment is Behind. -/
theorem notB_after {t : Tok} {e : El} {r : List Tok} (h5 : t.kind = 5) (hb : BehC (some t) (e.toks ++ r)) : e.isB = false := by
  cases hB : e.isB with
  | false => rfl
  | true =>
    obtain ⟨u, rfl, _, hu⟩ := El.isB_leaf hB
    have := hb.1 hu
    simp [endK, h5] at this
theorem layL_cons_nl (W : Nat) (e : El) (es : List El) (n cur c : Nat) (beside : Bool) (last : Nat) (h0 : n ≠ 0) (h1 : ¬ (n = 1 ∧ beside = true)) (hB : e.isB = false) (tl : List UInt8) : ∃ r, render (layL W (e :: es) n cur c beside last) tl = 10 :: r := by
  rw [layL, gapOf_later h0 h1 hB]
  obtain ⟨r, hr⟩ := El.lay_head W e cur (nl c) (tailOf es last)
  rw [hr, List.cons_append, render]
  exact ⟨_, rfl⟩
/-- A list's later elements begin a new line, or its bracket does. -/
theorem nl_in (W : Nat) (e : El) (es : List El) (n cur c k : Nat) (beside : Bool) (last : Nat) (cl : Tok) (hn : 2 ≤ n) (p : Option Tok) (hb : BehC p (toksL (e :: es))) :
    10 ∈ render (layL W (e :: es) n cur c beside last ++ [(closeGap (e :: es) k, cl)]) [] := by
  rw [render_app]
  cases hB : e.isB with
  | false =>
    obtain ⟨r, hr⟩ := layL_cons_nl W e es n cur c beside last (by omega) (by omega) hB (render [(closeGap (e :: es) k, cl)] [])
    rw [hr]; exact List.mem_cons_self ..
  | true =>
    obtain ⟨t, rfl, h5, _⟩ := El.isB_leaf hB
    cases es with
    | nil =>
      rw [render_tl]
      apply List.mem_append_right
      have : closeGap [El.leaf t] k = nl k := by simp [closeGap, El.isC, h5]
      rw [this, render]
      apply List.mem_append_left
      exact List.mem_cons_self ..
    | cons f es =>
      have hBf : f.isB = false := by
        rw [toksL, El.toks, toksL] at hb
        exact notB_after h5 hb.2
      rw [layL, render_app]
      obtain ⟨r, hr⟩ := layL_cons_nl W f es (n + 1) (colB cur (render ((El.leaf t).lay W cur (gapOf (El.leaf t) n c beside) (tailOf (f :: es) last)) [])) c beside last (by omega) (by omega) hBf (render [(closeGap (El.leaf t :: f :: es) k, cl)] [])
      rw [hr, render_tl]
      apply List.mem_append_right
      exact List.mem_cons_self ..
/-- What follows a list's elements: the tail, or a new line. -/
def After (es : List El) (last : Nat) (B : List UInt8) : Prop := ∀ e, es.getLast? = some e → (e.isC = true → B.takeWhile inLn = []) ∧ (e.isC = false → (B.takeWhile inLn).length = last)
def LeafFirst (es : List El) : Prop := ∀ e r, es = e :: r → ∃ t, e = .leaf t
theorem style_leaf (o : Tok) (es : List El) (h : (style o es).2 = true) : LeafFirst es := by
  rintro e r rfl
  cases e with
  | leaf t => exact ⟨t, rfl⟩
  | pre _ _ => simp [style] at h
  | lst _ _ _ => simp [style] at h
theorem After.tail {e : El} {es : List El} {last : Nat} {B : List UInt8} (h : After (e :: es) last B) : After es last B := by
  intro x hx
  cases es with
  | nil => simp at hx
  | cons f es => exact h x (by rw [List.getLast?_cons_cons]; exact hx)
/-- The tail is what it is said to be. -/
theorem tail_is (W : Nat) (e : El) (es : List El) (n cur c : Nat) (beside : Bool) (last : Nat) (B : List UInt8) (p : Option Tok) (hno : ∀ t ∈ toksL (e :: es), No10 t.text) (hb : BehC p (toksL (e :: es))) (ha : After (e :: es) last B) (hc : e.isC = false)
    (hs : n = 0 → beside = false) : ((render (layL W es (n + 1) cur c beside last) B).takeWhile inLn).length = tailOf es last := by
  cases es with
  | nil => exact (ha e rfl).2 hc
  | cons f es =>
    cases hB : f.isB with
    | false =>
      obtain ⟨r, hr⟩ := layL_cons_nl W f es (n + 1) cur c beside last (by omega) (fun h => by have := hs (by omega); rw [this] at h; cases h.2) hB B
      rw [hr, tw_cons10, tailOf, hB]; rfl
    | true =>
      obtain ⟨t, rfl, h5, _⟩ := El.isB_leaf hB
      have ht : No10 t.text := hno t (by simp [toksL, El.toks])
      have e1 : ∀ rest, (render (layL W (El.leaf t :: es) (n + 1) cur c beside last) rest).takeWhile inLn = 32 :: (t.text ++ (render (layL W es (n + 1 + 1) (colB cur (render ((El.leaf t).lay W cur (gapOf (El.leaf t) (n + 1) c beside) (tailOf es last)) [])) c beside last) rest).takeWhile inLn) := by
        intro rest
        rw [layL, gapOf_B (by omega) hB, El.lay, render_app, render, render, List.cons_append, List.nil_append, tw_consNo (by decide), List.takeWhile_append_of_pos (fun a ha => by simp [inLn, ht a ha])]
      rw [e1]
      have e2 : (render (layL W es (n + 1 + 1) (colB cur (render ((El.leaf t).lay W cur (gapOf (El.leaf t) (n + 1) c beside) (tailOf es last)) [])) c beside last) B).takeWhile inLn = [] := by
        cases es with
        | nil => rw [layL]; exact (ha (El.leaf t) rfl).1 (by simp [El.isC, h5])
        | cons x es =>
          have hBx : x.isB = false := by
            rw [toksL, toksL, El.toks, toksL] at hb
            obtain ⟨r, hr⟩ := e.toks_last
            rw [hr] at hb
            exact notB_after h5 (BehC.right hb).2
          obtain ⟨r, hr⟩ := layL_cons_nl W x es (n + 1 + 1) (colB cur (render ((El.leaf t).lay W cur (gapOf (El.leaf t) (n + 1) c beside) (tailOf (x :: es) last)) [])) c beside last (by omega) (by omega) hBx B
          rw [hr, tw_cons10]
      rw [e2, tailOf, hB]
      simp [El.first]
mutual
theorem El.nar (W : Nat) : ∀ (e : El), (∀ t ∈ e.toks, No10 t.text) → (∀ t ∈ e.toks, t.kind = 3 → t.text = [41]) → e.WF → ∀ p c0 g tail B, BehC p e.toks → (B.takeWhile inLn).length = tail → ∀ P o es c Q, 3 ≤ es.length → Occ e P (.lst o es c) Q → Nar W c0 (e.lay W c0 g tail) B P (.lst o es c) Q
  | .leaf t, _, _, _, p, c0, g, tail, B, _, _, P, o, es, c, Q, _, h => by cases h
  | .pre t e, hno, hcl, hw, p, c0, g, tail, B, hb, hB, P, o, es, c, Q, h3, h => by
    rw [El.lay]
    split
    · rename_i hf
      exact nar_flat hno hf hB h
    · cases h with
      | pre h =>
        rw [El.toks] at hb
        have ht : No10 t.text := hno t (by rw [El.toks]; simp)
        have := El.nar W e (fun u hu => hno u (by rw [El.toks]; simp [hu])) (fun u hu => hcl u (by rw [El.toks]; simp [hu])) hw.2.2 (some t) (colB c0 g + t.text.length) [] tail B hb.2 hB _ o es c Q h3 h
        have := Nar.lift (c0 := c0) (pa := [(g, t)]) (pb := []) this (by rw [render, render, List.append_nil, colB_app, colB_no10 _ _ ht])
        simpa using this
  | .lst o' es' c', hno, hcl, hw, p, c0, g, tail, B, hb, hB, P, o, es, c, Q, h3, h => by
    rw [El.lay]
    split
    · rename_i hf
      exact nar_flat hno hf hB h
    · rw [El.toks] at hb
      have hbs : BehC (some o') (toksL es') := hb.2.left
      have ho : No10 o'.text := hno o' (by rw [El.toks]; simp)
      have hc' : c'.text = [41] := hcl c' (by rw [El.toks]; simp) hw.2.1
      generalize hst : style o' es' = st
      cases h with
      | here =>
        refine ⟨[], g, o', _, [], by simp; rfl, rfl, ?_, rfl, .inl ?_⟩
        · rw [List.map_append, layL_toks, El.toks]; rfl
        · match es', h3 with
          | a :: b :: d :: r, _ =>
            rw [layL, layL, List.append_assoc, List.append_assoc, render_app, render_app, render_tl]
            apply List.mem_append_right
            rw [render_tl]
            apply List.mem_append_right
            have hbd : ∃ q, BehC q (toksL (d :: r)) := by
              obtain ⟨x, hx⟩ := a.toks_last
              obtain ⟨y, hy⟩ := b.toks_last
              rw [toksL, hx] at hbs
              have h2 := BehC.right hbs
              rw [toksL, hy] at h2
              exact ⟨_, BehC.right h2⟩
            obtain ⟨q, hbd⟩ := hbd
            have e : closeGap (a :: b :: d :: r) (colB c0 g + st.1) = closeGap (d :: r) (colB c0 g + st.1) := by
              unfold closeGap; rw [List.getLast?_cons_cons, List.getLast?_cons_cons]
            rw [e]
            exact nl_in W d r _ _ _ _ _ _ _ (by omega) q hbd
      | lst h =>
        rename_i P' Q'
        have := layL_nar W es' (fun u hu => hno u (by rw [El.toks]; simp [hu])) (fun u hu => hcl u (by rw [El.toks]; simp [hu])) hw.2.2 0 (some o') (colB c0 g + o'.text.length) (colB c0 g + st.1) st.2 (tail + 1) (render [(closeGap es' (colB c0 g + st.1), c')] B) hbs
          (fun _ hs => style_leaf o' es' (by rw [hst]; exact hs)) ?_ P' o es c Q' h3 h
        · have := Nar.lift (c0 := c0) (pa := [(g, o')]) (pb := [(closeGap es' (colB c0 g + st.1), c')]) this (by rw [render, render, List.append_nil, colB_app, colB_no10 _ _ ho])
          simpa using this
        · intro e he
          unfold closeGap
          rw [he]
          simp only
          refine ⟨fun hc => ?_, fun hc => ?_⟩
          · rw [hc]; rfl
          · rw [hc, render, render, hc']
            simp only [Bool.false_eq_true, if_false, List.nil_append, List.cons_append]
            rw [tw_consNo (by decide), List.length_cons, hB]
theorem layL_nar (W : Nat) : ∀ (es : List El), (∀ t ∈ toksL es, No10 t.text) → (∀ t ∈ toksL es, t.kind = 3 → t.text = [41]) → WFL es → ∀ n p cur c beside last B, BehC p (toksL es) → (n = 0 → beside = true → LeafFirst es) → After es last B → ∀ P o es' c' Q, 3 ≤ es'.length → OccL es P (.lst o es' c') Q → Nar W cur (layL W es n cur c beside last) B P (.lst o es' c') Q
  | [], _, _, _, _, _, _, _, _, _, _, _, _, _, _, _, _, _, _, _, h => by cases h
  | e :: es, hno, hcl, hw, n, p, cur, c, beside, last, B, hb, hs, ha, P, o, es', c', Q, h3, h => by
    rw [layL]
    have hnoe : ∀ t ∈ e.toks, No10 t.text := fun u hu => hno u (by rw [toksL]; simp [hu])
    have hcle : ∀ t ∈ e.toks, t.kind = 3 → t.text = [41] := fun u hu => hcl u (by rw [toksL]; simp [hu])
    have hb' := hb
    rw [toksL] at hb'
    cases h with
    | head h =>
      rename_i Q'
      have hce : e.isC = false := by
        cases hc : e.isC with
        | false => rfl
        | true => obtain ⟨t, rfl, _⟩ := El.isC_leaf hc; cases h
      have hz : n = 0 → beside = false := by
        intro hn
        cases hbe : beside with
        | false => rfl
        | true => obtain ⟨t, rfl⟩ := hs hn hbe e es rfl; cases h
      have := El.nar W e hnoe hcle hw.1 p cur (gapOf e n c beside) (tailOf es last) (render (layL W es (n + 1) (colB cur (render (e.lay W cur (gapOf e n c beside) (tailOf es last)) [])) c beside last) B) hb'.left
        (tail_is W e es n _ c beside last B p hno hb ha hce hz) P o es' c' _ h3 h
      have := Nar.lift (c0 := cur) (pa := []) this rfl
      simpa [layL_toks] using this
    | tail h =>
      rename_i P'
      have hbs : BehC (some e.last) (toksL es) := by
        obtain ⟨r, hr⟩ := e.toks_last
        rw [hr] at hb'; exact hb'.right
      have := layL_nar W es (fun u hu => hno u (by rw [toksL]; simp [hu])) (fun u hu => hcl u (by rw [toksL]; simp [hu])) hw.2 (n + 1) (some e.last) (colB cur (render (e.lay W cur (gapOf e n c beside) (tailOf es last)) [])) c beside last B hbs (fun h => by omega) ha.tail _ o es' c' Q h3 h
      have := Nar.lift (c0 := cur) (pa := e.lay W cur (gapOf e n c beside) (tailOf es last)) (pb := []) this rfl
      simpa [El.lay_toks] using this
end
/-- A line that is too long has no list of three elements on it. -/
theorem nar_plain {l : List UInt8} {ts : List Tok} {pl : Int} (h : scanRes l = (ts, 0, pl)) (W : Nat) {P : List Tok} {o : Tok} {es : List El} {c : Tok} {Q : List Tok} (h3 : 3 ≤ es.length) (ho : OccL (parse (ts.map erase)) P (.lst o es c) Q) :
    Nar W 0 (layL W (parse (ts.map erase)) 0 0 0 false 0) [10] P (.lst o es c) Q := by
  have hs := parse_spec (els_of_scan h)
  have hg := scan_good h
  have hb := scan_behC h
  refine layL_nar W _ (fun t ht => ?_) (fun t ht hk => ?_) hs.2 0 none 0 0 false 0 [10] (by rw [hs.1]; exact hb.map _ (fun t => ⟨rfl, rfl⟩) rfl) (fun _ h => by cases h) (fun e _ => ⟨fun _ => rfl, fun _ => rfl⟩) P o es c Q h3 ho
  · rw [hs.1] at ht
    obtain ⟨u, hu, rfl⟩ := List.mem_map.1 ht
    exact (hg u hu).1.no10
  · rw [hs.1] at ht
    obtain ⟨u, hu, rfl⟩ := List.mem_map.1 ht
    exact (hg u hu).1.close hk
end Sc
end Go.Proofs.YtoieklacpkahbaaDoor
namespace Go.Proofs.YtoieklacpkahbaaDoor
open Go.RowKit
namespace Sc
def lastP (p : Option Tok) (ps : List (List UInt8 × Tok)) : Option Tok := match ps.getLast? with | some q => some q.2 | none => p
theorem Okp.snoc {ps : List (List UInt8 × Tok)} {p : Option Tok} {g : List UInt8} {t : Tok} (h : Okp p ps []) (k : Okg (lastP p ps) g t) : Okp p (ps ++ [(g, t)]) [] := by
  induction ps generalizing p with
  | nil => exact k.cons ⟨fun c hc => by simp at hc, fun q _ _ => .inl rfl⟩
  | cons q ps ih =>
    obtain ⟨g', t'⟩ := q
    refine ⟨h.1, h.2.1, h.2.2.1, h.2.2.2.1, ih h.2.2.2.2 ?_⟩
    have : lastP (some t') ps = lastP p ((g', t') :: ps) := by
      unfold lastP
      cases ps with
      | nil => rfl
      | cons x ps =>
        rw [List.getLast?_cons_cons]
        cases hx : (x :: ps).getLast? with
        | none => simp at hx
        | some y => rfl
    rw [this]; exact k
/-- The same tokens with other blanks are laid out the same. -/
theorem loose_plain {l : List UInt8} {ts : List Tok} {pl : Int} (h : scanRes l = (ts, 0, pl)) (ps : List (List UInt8 × Tok)) (tl : List UInt8) (hk : ps.map (·.2) = ts) (ho : Okp none ps tl) (hl : (render ps tl).length ≤ 4096) (W : Nat) :
    fmtRes (render ps tl) W = (fmtT W ts, 0, 0) := by
  unfold fmtRes
  rw [scan_render h ps tl (by rw [hk]) ho hl]
  simp only [if_true]
  rw [fmtT_key (by rw [placed_key, hk] : (placed ps 0).map key = ts.map key)]
/-- Blanks that may stand ahead of a token, if there is at least one. -/
theorem okg_loose {p : Option Tok} {g : List UInt8} {t : Tok} (hg : ∀ c ∈ g, bl3 c = true) (hne : g ≠ []) (ht : Good t) (h5 : ∀ q, p = some q → q.kind = 5 → ∃ r, g = 10 :: r)
    (hb : t.behind = true → endK p = true) (h10 : t.kind = 5 → (t.behind = false ↔ 10 ∈ g)) : Okg p g t := by
  refine ⟨hg, ht, fun q hq => ⟨fun h => absurd h hne, h5 q hq⟩, fun hk => ?_⟩
  have := h10 hk
  cases hbb : t.behind with
  | false =>
    have := this.1 hbb
    simp [this]
  | true =>
    have hn : (10 : UInt8) ∉ g := fun hm => by have := this.2 hm; rw [hbb] at this; cases this
    rw [hb hbb]
    simp [hn]
theorem render_take (ps : List (List UInt8 × Tok)) (tl : List UInt8) (i : Nat) : render ps tl = render (ps.take i) [] ++ render (ps.drop i) tl := by
  rw [← render_tl, ← render_app, List.take_append_drop]
theorem placed_get : ∀ (ps : List (List UInt8 × Tok)) (k i : Nat) (h : i < ps.length), (placed ps k)[i]? = some { ps[i].2 with place := ((k + (render (ps.take i) []).length + ps[i].1.length : Nat) : Int) }
  | [], _, _, h => by simp at h
  | (g, t) :: ps, k, 0, _ => by simp [placed, render]
  | (g, t) :: ps, k, i + 1, h => by
    rw [placed, List.getElem?_cons_succ, placed_get ps _ i (by simpa using h)]
    simp only [List.getElem_cons_succ, List.take_succ_cons, render, List.length_append]
    congr 3
    omega
theorem placed_len : ∀ (ps : List (List UInt8 × Tok)) (k : Nat), (placed ps k).length = ps.length
  | [], _ => rfl
  | (g, t) :: ps, k => by rw [placed, List.length_cons, List.length_cons, placed_len ps]
theorem render_at (ps : List (List UInt8 × Tok)) (tl : List UInt8) (i : Nat) (h : i < ps.length) : (render ps tl).drop (render (ps.take i) []).length = ps[i].1 ++ (ps[i].2.text ++ render (ps.drop (i + 1)) tl) := by
  rw [render_take ps tl i, List.drop_left, List.drop_eq_getElem_cons h]; rfl
theorem render_next (ps : List (List UInt8 × Tok)) (i : Nat) (h : i < ps.length) : (render (ps.take (i + 1)) []).length = (render (ps.take i) []).length + ps[i].1.length + ps[i].2.text.length := by
  rw [List.take_succ_eq_append_getElem h, render_app, render_tl]
  simp [render]; omega
/-- A line's beginning, from behind. -/
theorem colB_le (l : List UInt8) : colB 0 l ≤ l.length := by
  have key : ∀ (l : List UInt8) (c : Nat), colB c l ≤ c + l.length := by
    intro l
    induction l with
    | nil => intro c; simp [colB]
    | cons b l ih =>
      intro c
      have e : colB c (b :: l) = colB (if b = 10 then 0 else c + 1) l := rfl
      rw [e]
      have := ih (if b = 10 then 0 else c + 1)
      simp only [List.length_cons]
      by_cases hb : b = 10
      · rw [if_pos hb] at this ⊢; omega
      · rw [if_neg hb] at this ⊢; omega
  have := key l 0; omega
theorem colB_snoc (l : List UInt8) (b : UInt8) : colB 0 (l ++ [b]) = if b = 10 then 0 else colB 0 l + 1 := by
  rw [colB_app]; rfl
end Sc
end Go.Proofs.YtoieklacpkahbaaDoor
namespace Go.Proofs.YtoieklacpkahbaaDoor
open Go.RowKit
namespace Sc
/-- The blanks between two tokens of a flat text. -/
def flatGap (p t : Tok) : List UInt8 := if t.kind = 3 ∨ p.kind = 2 ∨ p.kind = 4 then [] else [32]
def fl : Tok → List Tok → List (List UInt8 × Tok)
  | _, [] => []
  | p, t :: ts => (flatGap p t, t) :: fl t ts
theorem fl_app (p : Tok) (xs : List Tok) (x : Tok) (ys : List Tok) : fl p (xs ++ [x] ++ ys) = fl p (xs ++ [x]) ++ fl x ys := by
  induction xs generalizing p with
  | nil => rfl
  | cons y xs ih => simp only [List.cons_append, fl]; rw [ih y]
theorem El.first_kind {e : El} (h : e.WF) : e.first.kind ≠ 3 := by
  cases e with
  | leaf t => have : t.kind = 1 ∨ t.kind = 5 := h; show t.kind ≠ 3; omega
  | pre t e => have := h.1; show t.kind ≠ 3; omega
  | lst o es c => have := h.1; show o.kind ≠ 3; omega
theorem El.last_kind : ∀ {e : El}, e.WF → e.last.kind ≠ 2 ∧ e.last.kind ≠ 4
  | .leaf t, h => by have : t.kind = 1 ∨ t.kind = 5 := h; simp only [El.last]; omega
  | .pre t e, h => El.last_kind (e := e) h.2.2
  | .lst o es c, h => by have := h.2.1; simp only [El.last]; omega
mutual
theorem El.flat_fl : ∀ (e : El), e.WF → ∀ g r, e.toks = e.first :: r → e.flat g = (g, e.first) :: fl e.first r
  | .leaf t, _, g, r, h => by
    rw [El.toks] at h
    injection h with _ h; subst h; rfl
  | .pre t e, hw, g, r, h => by
    rw [El.toks] at h
    injection h with _ h
    obtain ⟨r', hr⟩ := e.toks_first
    have ih := El.flat_fl e hw.2.2 [] r' hr
    rw [El.flat, ih, ← h, hr]
    show _ = (g, t) :: (flatGap t e.first, e.first) :: fl e.first r'
    have : flatGap t e.first = [] := by unfold flatGap; rw [if_pos (.inr (.inr hw.1))]
    rw [this]
  | .lst o es c, hw, g, r, h => by
    rw [El.toks] at h
    injection h with _ h
    rw [El.flat, ← h]
    show _ = (g, o) :: fl o (toksL es ++ [c])
    congr 1
    cases es with
    | nil =>
      show [([], c)] = [(flatGap o c, c)]
      have : flatGap o c = [] := by unfold flatGap; rw [if_pos (.inl hw.2.1)]
      rw [this]
    | cons e es =>
      have := flatL_fl (e :: es) hw.2.2 o [] (fun e' r he => by
        unfold flatGap; rw [if_pos (.inr (.inl hw.1))]) 
      rw [this]
      have hl : ∃ x y, toksL (e :: es) = x ++ [y] := by
        have hne : toksL (e :: es) ≠ [] := by obtain ⟨r, hr⟩ := e.toks_first; rw [toksL, hr]; simp
        exact ⟨_, _, (List.dropLast_concat_getLast hne).symm⟩
      obtain ⟨x, y, hxy⟩ := hl
      rw [hxy, fl_app]
      congr 1
      have : flatGap y c = [] := by unfold flatGap; rw [if_pos (.inl hw.2.1)]
      rw [fl, this]; rfl
theorem flatL_fl : ∀ (es : List El), WFL es → ∀ p g, (∀ e r, es = e :: r → flatGap p e.first = g) → flatL es g = fl p (toksL es)
  | [], _, _, _, _ => rfl
  | e :: es, hw, p, g, hg => by
    obtain ⟨r, hr⟩ := e.toks_first
    have ih := El.flat_fl e hw.1 g r hr
    have hs := flatL_fl es hw.2 e.last [32] (fun e' r he => by
      subst he
      have h1 := El.last_kind hw.1
      have h2 := El.first_kind hw.2.1
      unfold flatGap; rw [if_neg (by omega)])
    obtain ⟨x, hx⟩ := e.toks_last
    rw [flatL, hs, ih, toksL, hx, fl_app, ← hx, hr, fl, hg e es rfl]
end
/-- Brackets that open, less those that close. -/
def net : List Tok → Int
  | [] => 0
  | t :: ts => (if t.kind = 2 then 1 else 0) - (if t.kind = 3 then 1 else 0) + net ts
theorem net_app (a b : List Tok) : net (a ++ b) = net a + net b := by
  induction a with
  | nil => simp [net]
  | cons t a ih => simp only [List.cons_append, net, ih]; omega
mutual
theorem El.net_ok : ∀ (e : El), e.WF → net e.toks = 0 ∧ ∀ k, 0 ≤ net (e.toks.take k)
  | .leaf t, h => by
    have h : t.kind = 1 ∨ t.kind = 5 := h
    have e : net [t] = 0 := by
      simp only [net]
      rw [if_neg (by omega), if_neg (by omega)]; rfl
    refine ⟨e, fun k => ?_⟩
    cases k with
    | zero => simp [net]
    | succ k => rw [El.toks, List.take_succ_cons, List.take_nil, e]; decide
  | .pre t e, h => by
    have ih := El.net_ok e h.2.2
    have h4 := h.1
    refine ⟨?_, fun k => ?_⟩
    · rw [El.toks, net, ih.1, if_neg (by omega), if_neg (by omega)]; rfl
    · cases k with
      | zero => simp [net]
      | succ k =>
        have := ih.2 k
        rw [El.toks, List.take_succ_cons, net, if_neg (by omega), if_neg (by omega)]; omega
  | .lst o es c, h => by
    have ih := netL_ok es h.2.2
    have h2 := h.1
    have h3 := h.2.1
    refine ⟨?_, fun k => ?_⟩
    · rw [El.toks, net, net_app, ih.1, if_pos h2, if_neg (by omega), net, if_neg (by omega), if_pos h3]; rfl
    · cases k with
      | zero => simp [net]
      | succ k =>
        rw [El.toks, List.take_succ_cons, net, if_pos h2, if_neg (by omega), List.take_append, net_app]
        have := ih.2 k
        cases hk : k - (toksL es).length with
        | zero => simp [net]; omega
        | succ m => rw [List.take_succ_cons, List.take_nil, net, if_neg (by omega), if_pos h3, net]; omega
theorem netL_ok : ∀ (es : List El), WFL es → net (toksL es) = 0 ∧ ∀ k, 0 ≤ net ((toksL es).take k)
  | [], _ => ⟨rfl, fun k => by simp [toksL, net]⟩
  | e :: es, h => by
    have h1 := El.net_ok e h.1
    have h2 := netL_ok es h.2
    refine ⟨by rw [toksL, net_app, h1.1, h2.1]; rfl, fun k => ?_⟩
    rw [toksL, List.take_append, net_app]
    have := h1.2 k
    have := h2.2 (k - e.toks.length)
    omega
end
/-- Within a list at least one is open. -/
theorem lst_net {o c : Tok} {es : List El} (h : (El.lst o es c).WF) (k : Nat) (h0 : 0 < k) (hk : k < (El.lst o es c).toks.length) : 1 ≤ net ((El.lst o es c).toks.take k) := by
  have ih := netL_ok es h.2.2
  have h2 := h.1
  rw [El.toks] at hk ⊢
  cases k with
  | zero => omega
  | succ k =>
    rw [List.take_succ_cons, net, if_pos h2, if_neg (by omega), List.take_append_of_le_length (by simp at hk; omega)]
    have := ih.2 k
    omega
theorem colB_nil (c : Nat) : colB c [] = c := rfl
/-- The blanks ahead of an element are no part of how it is laid out. -/
theorem lay_gap (W : Nat) (e : El) (c0 : Nat) (g : List UInt8) (tail : Nat) : ∃ r, e.lay W c0 g tail = (g, e.first) :: r ∧ e.lay W (colB c0 g) [] tail = ([], e.first) :: r := by
  cases e with
  | leaf t => exact ⟨[], rfl, rfl⟩
  | pre t e =>
    rw [El.lay, El.lay, colB_nil]
    split
    · exact ⟨_, rfl, rfl⟩
    · exact ⟨_, rfl, rfl⟩
  | lst o es c =>
    rw [El.lay, El.lay, colB_nil]
    split
    · exact ⟨_, rfl, rfl⟩
    · exact ⟨_, rfl, rfl⟩
theorem lay_gap_render (W : Nat) (e : El) (c0 : Nat) (g : List UInt8) (tail : Nat) : render (e.lay W c0 g tail) [] = g ++ render (e.lay W (colB c0 g) [] tail) [] := by
  obtain ⟨r, h1, h2⟩ := lay_gap W e c0 g tail
  rw [h1, h2, render, render]; rfl
end Sc
end Go.Proofs.YtoieklacpkahbaaDoor
