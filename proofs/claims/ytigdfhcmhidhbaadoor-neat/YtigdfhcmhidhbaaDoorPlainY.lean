/- Plain laws: what is laid out has the same tokens. No program here. -/
import Derived.Test.YtigdfhcmhidhbaaDoorPlainX
namespace Go.Proofs.YtigdfhcmhidhbaaDoor
open Go.RowKit
namespace Sc
/-- A token as it is read, and what it looks like. -/
def GT (t : Tok) : Prop := Good t ∧ Shape t
/-- A comment that is Behind stands behind an atom or a bracket that closes. -/
def BehC : Option Tok → List Tok → Prop
  | _, [] => True
  | p, t :: ts => (t.behind = true → endK p = true) ∧ BehC (some t) ts
theorem BehC.left {xs ys : List Tok} {p : Option Tok} (h : BehC p (xs ++ ys)) : BehC p xs := by
  induction xs generalizing p with
  | nil => trivial
  | cons x xs ih => exact ⟨h.1, ih h.2⟩
theorem BehC.right {xs ys : List Tok} {x : Tok} {p : Option Tok} (h : BehC p (xs ++ [x] ++ ys)) : BehC (some x) ys := by
  induction xs generalizing p with
  | nil => exact h.2
  | cons y xs ih => exact ih h.2
theorem BehC.append {xs ys : List Tok} {p : Option Tok} (h : BehC p xs) (k : BehC none ys) : BehC p (xs ++ ys) := by
  induction xs generalizing p with
  | nil => cases ys with
    | nil => trivial
    | cons y ys => exact ⟨fun hb => absurd (k.1 hb) (by simp [endK]), k.2⟩
  | cons x xs ih => exact ⟨h.1, ih h.2⟩
theorem BehC.snoc {xs : List Tok} {x : Tok} {p : Option Tok} (h : BehC p xs) (k : x.behind = true → endsEl xs = true) : BehC p (xs ++ [x]) := by
  induction xs generalizing p with
  | nil => exact ⟨fun hb => absurd (k hb) (by simp [endsEl]), trivial⟩
  | cons y xs ih =>
    refine ⟨h.1, ?_⟩
    cases xs with
    | nil => exact ⟨fun hb => by have := k hb; simpa [endsEl, endK] using this, trivial⟩
    | cons z xs => exact ih h.2 (fun hb => by have := k hb; simpa [endsEl] using this)
theorem BehC.map {xs : List Tok} {p q : Option Tok} (f : Tok → Tok) (hf : ∀ t, (f t).behind = t.behind ∧ (f t).kind = t.kind) (hp : endK p = endK q) (h : BehC p xs) : BehC q (xs.map f) := by
  induction xs generalizing p q with
  | nil => trivial
  | cons x xs ih =>
    refine ⟨fun hb => ?_, ih ?_ h.2⟩
    · rw [← hp]; exact h.1 (by rw [← (hf x).1]; exact hb)
    · simp only [endK]; rw [(hf x).2]
theorem lineGo_behC (l : List UInt8) : ∀ (f a : Nat) (acc : List Tok), BehC none acc → BehC none (lineGo l f a acc).1 := by
  intro f
  induction f with
  | zero => intro a acc h; exact h
  | succ f ih =>
    intro a acc h
    rw [lineGo]
    split
    · exact h
    · split
      · refine ih _ _ (h.snoc fun hb => ?_)
        simp only [Bool.and_eq_true] at hb; exact hb.2
      · trivial
theorem toksGo_behC : ∀ (ls : List (List UInt8)) (b : Nat) (acc : List Tok), BehC none acc → BehC none (toksGo ls b acc).1 := by
  intro ls
  induction ls with
  | nil => intro b acc h; exact h
  | cons l ls ih =>
    intro b acc h
    rw [toksGo]
    split
    · exact ih _ _ (h.append ((lineGo_behC l _ _ [] trivial).map _ (fun t => ⟨rfl, rfl⟩) rfl))
    · trivial
theorem scan_behC {l : List UInt8} {ts : List Tok} {pl : Int} (h : scanRes l = (ts, 0, pl)) : BehC none ts := by
  have := toksGo_behC (lns l) 0 [] trivial
  obtain ⟨_, _, h3, _⟩ := scan_ok h
  have e : (toksGo (lns l) 0 []).1 = ts := by
    show (toksRes l).1 = ts; rw [h3]
  rw [e] at this; exact this

/-- May t stand behind p, with the blanks g between? -/
def Okg (p : Option Tok) (g : List UInt8) (t : Tok) : Prop := (∀ c ∈ g, bl3 c = true) ∧ Good t ∧ (∀ q, p = some q → (g = [] → Glue q t) ∧ (q.kind = 5 → ∃ r, g = 10 :: r)) ∧ (t.kind = 5 → t.behind = (!(g.contains 10) && endK p))
theorem Okg.cons {p : Option Tok} {g : List UInt8} {t : Tok} {ps : List (List UInt8 × Tok)} {tl : List UInt8} (h : Okg p g t) (k : Okp (some t) ps tl) : Okp p ((g, t) :: ps) tl := ⟨h.1, h.2.1, h.2.2.1, h.2.2.2, k⟩
theorem okg_open {q t : Tok} (hq : GT q) (h2 : q.kind = 2) (ht : GT t) (hb : t.kind = 5 → t.behind = false) : Okg (some q) [] t := by
  refine ⟨fun c hc => by simp at hc, ht.1, fun x hx => ?_, fun h => ?_⟩
  · injection hx with hx; subst hx
    exact ⟨fun _ => ⟨.inl h2, fun h44 => by have := hq.2.2.1 h44; omega⟩, fun h5 => by omega⟩
  · rw [hb h]; simp [endK, h2]
theorem okg_top {t : Tok} (ht : GT t) (hb : t.kind = 5 → t.behind = false) : Okg none [] t :=
  ⟨fun c hc => by simp at hc, ht.1, (fun x (hx : none = some x) => by cases hx), fun h => by rw [hb h]; simp [endK]⟩
theorem okg_pre {q t : Tok} (h4 : q.kind = 4) (ht : GT t) (hl : leadsB q t = true) : Okg (some q) [] t := by
  have h3 : t.kind ≠ 3 := fun h => by rw [leadsB, if_pos h] at hl; cases hl
  have h5 : t.kind ≠ 5 := fun h => by rw [leadsB, if_neg h3, if_pos h] at hl; cases hl
  refine ⟨fun c hc => by simp at hc, ht.1, fun x hx => ?_, fun h => absurd h h5⟩
  injection hx with hx; subst hx
  refine ⟨fun _ => ⟨.inr (.inl h4), fun h44 => ?_⟩, fun h5 => by omega⟩
  by_cases h1 : t.kind = 1
  · rw [leadsB, if_neg h3, if_neg h5, if_pos h1, h44] at hl
    simpa using hl
  · exact ht.2.2.2.1 (by have := ht.2.2.2.2; omega)
theorem okg_close {q t : Tok} (h5 : q.kind ≠ 5) (ht : GT t) (h3 : t.kind = 3) : Okg (some q) [] t := by
  refine ⟨fun c hc => by simp at hc, ht.1, fun x hx => ?_, fun h => by omega⟩
  injection hx with hx; subst hx
  exact ⟨fun _ => ⟨.inr (.inr ⟨h5, h3⟩), fun _ => by rw [ht.1.close h3]; decide⟩, fun h => absurd h h5⟩
theorem okg_sp {q t : Tok} (h5 : q.kind ≠ 5) (ht : GT t) (hb : t.kind = 5 → t.behind = endK (some q)) : Okg (some q) [32] t := by
  refine ⟨fun c hc => by simp at hc; subst hc; rfl, ht.1, fun x hx => ?_, fun h => ?_⟩
  · injection hx with hx; subst hx
    exact ⟨fun h => by simp at h, fun h => absurd h h5⟩
  · rw [hb h]; simp
theorem okg_nl {p : Option Tok} {t : Tok} (c : Nat) (ht : GT t) (hb : t.kind = 5 → t.behind = false) : Okg p (nl c) t := by
  refine ⟨fun x hx => ?_, ht.1, fun x hx => ⟨fun h => by simp [nl] at h, fun _ => ⟨_, rfl⟩⟩, fun h => ?_⟩
  · unfold nl at hx
    rcases List.mem_cons.1 hx with rfl | hx
    · rfl
    · rw [(List.mem_replicate.1 hx).2]; rfl
  · rw [hb h]; simp [nl]
theorem El.first_mem (e : El) : e.first ∈ e.toks := by
  obtain ⟨r, h⟩ := e.toks_first; rw [h]; exact List.mem_cons_self ..
theorem El.last_mem (e : El) : e.last ∈ e.toks := by
  obtain ⟨r, h⟩ := e.toks_last; rw [h]; simp
def lastO : Option Tok → List El → Option Tok
  | p, [] => p
  | _, e :: es => lastO (some e.last) es
theorem lastO_some (q : Tok) : ∀ es, ∃ x, lastO (some q) es = some x
  | [] => ⟨q, rfl⟩
  | e :: es => lastO_some e.last es
mutual
theorem El.flat_ok : ∀ (e : El), e.WF → (∀ t ∈ e.toks, GT t) → (∀ t ∈ e.toks, t.kind ≠ 5) → ∀ p g rest tl, Okg p g e.first → Okp (some e.last) rest tl → Okp p (e.flat g ++ rest) tl
  | .leaf t, _, _, _, p, g, rest, tl, h1, h2 => by rw [El.flat]; exact h1.cons h2
  | .pre t e, hw, hg, h5, p, g, rest, tl, h1, h2 => by
    rw [El.flat, List.cons_append]
    have hge : ∀ u ∈ e.toks, GT u := fun u hu => hg u (by rw [El.toks]; exact List.mem_cons_of_mem _ hu)
    have h5e : ∀ u ∈ e.toks, u.kind ≠ 5 := fun u hu => h5 u (by rw [El.toks]; exact List.mem_cons_of_mem _ hu)
    exact h1.cons (El.flat_ok e hw.2.2 hge h5e (some t) [] rest tl (okg_pre hw.1 (hge _ e.first_mem) hw.2.1) h2)
  | .lst o es c, hw, hg, h5, p, g, rest, tl, h1, h2 => by
    rw [El.flat, List.cons_append, List.append_assoc]
    have hge : ∀ u ∈ toksL es, GT u := fun u hu => hg u (by rw [El.toks]; simp [hu])
    have h5e : ∀ u ∈ toksL es, u.kind ≠ 5 := fun u hu => h5 u (by rw [El.toks]; simp [hu])
    have hgo := hg o (by rw [El.toks]; simp)
    have hgc := hg c (by rw [El.toks]; simp)
    refine h1.cons (flatL_ok es hw.2.2 hge h5e o [] _ tl (by have := hw.1; omega) (fun e r he => ?_) ?_)
    · have hf : e.first ∈ toksL es := by rw [he, toksL]; exact List.mem_append_left _ e.first_mem
      exact okg_open hgo hw.1 (hge _ hf) (fun h => absurd h (h5e _ hf))
    · obtain ⟨x, hx, hx5⟩ := lastO_no5 es o (by have := hw.1; omega) h5e
      rw [hx]
      exact (okg_close hx5 hgc hw.2.1).cons h2
theorem lastO_no5 : ∀ (es : List El) (q : Tok), q.kind ≠ 5 → (∀ t ∈ toksL es, t.kind ≠ 5) → ∃ x, lastO (some q) es = some x ∧ x.kind ≠ 5
  | [], q, h, _ => ⟨q, rfl, h⟩
  | e :: es, _, _, h => lastO_no5 es e.last (h _ (by rw [toksL]; exact List.mem_append_left _ e.last_mem)) (fun t ht => h t (by rw [toksL]; exact List.mem_append_right _ ht))
theorem flatL_ok : ∀ (es : List El), WFL es → (∀ t ∈ toksL es, GT t) → (∀ t ∈ toksL es, t.kind ≠ 5) → ∀ q g rest tl, q.kind ≠ 5 → (∀ e r, es = e :: r → Okg (some q) g e.first) → Okp (lastO (some q) es) rest tl → Okp (some q) (flatL es g ++ rest) tl
  | [], _, _, _, q, g, rest, tl, _, _, h => by rw [flatL]; exact h
  | e :: es, hw, hg, h5, q, g, rest, tl, _, h1, h2 => by
    rw [flatL, List.append_assoc]
    have hge : ∀ u ∈ e.toks, GT u := fun u hu => hg u (by rw [toksL]; exact List.mem_append_left _ hu)
    have h5e : ∀ u ∈ e.toks, u.kind ≠ 5 := fun u hu => h5 u (by rw [toksL]; exact List.mem_append_left _ hu)
    have hgs : ∀ u ∈ toksL es, GT u := fun u hu => hg u (by rw [toksL]; exact List.mem_append_right _ hu)
    have h5s : ∀ u ∈ toksL es, u.kind ≠ 5 := fun u hu => h5 u (by rw [toksL]; exact List.mem_append_right _ hu)
    have hl5 := h5e _ e.last_mem
    refine El.flat_ok e hw.1 hge h5e (some q) g _ tl (h1 e es rfl) (flatL_ok es hw.2 hgs h5s e.last [32] rest tl hl5 (fun x r hx => ?_) h2)
    have hf : x.first ∈ toksL es := by rw [hx, toksL]; exact List.mem_append_left _ x.first_mem
    exact okg_sp hl5 (hgs _ hf) (fun h => absurd h (h5s _ hf))
end
theorem El.last_no5 : ∀ e : El, e.WF → e.isC = false → e.last.kind ≠ 5
  | .leaf t, _, h => by simpa [El.isC, El.last] using h
  | .pre t e, hw, _ => by
    refine El.last_no5 e hw.2.2 ?_
    cases e with
    | leaf u =>
      have hl := hw.2.1
      by_cases h5 : u.kind = 5
      · rw [show (El.leaf u).first = u from rfl, leadsB, if_neg (by omega), if_pos h5] at hl; cases hl
      · simp [El.isC, h5]
    | pre _ _ => rfl
    | lst _ _ _ => rfl
  | .lst o es c, hw, _ => by have := hw.2.1; simp only [El.last]; omega
/-- The second element may stand beside the first one. -/
def BesideOk : List El → Prop
  | e :: f :: _ => e.last.kind ≠ 5 ∧ f.isC = false
  | _ => True
theorem style_ok (o : Tok) (es : List El) (h : (style o es).2 = true) : BesideOk es := by
  cases es with
  | nil => trivial
  | cons e es =>
    cases es with
    | nil => trivial
    | cons f es =>
      cases e with
      | pre _ _ => simp [style] at h
      | lst _ _ _ => simp [style] at h
      | leaf t =>
        rw [style] at h
        split at h
        · rename_i h1
          refine ⟨by show t.kind ≠ 5; omega, ?_⟩
          split at h
          · simpa using h
          · split at h
            · simp at h
            · split at h
              · rename_i h2; exact h2.2
              · simp at h
        · simp at h
theorem fits_com {W : Nat} {e : El} {col tail : Nat} (h : fits W e col tail = true) : ∀ t ∈ e.toks, t.kind ≠ 5 := by
  intro t ht h5
  unfold fits El.com at h
  simp only [Bool.and_eq_true, Bool.not_eq_true'] at h
  have := List.any_eq_false.1 h.1 t ht
  simp [h5] at this
theorem El.isB_first {e : El} (h : e.isB = true) : e.first.kind = 5 ∧ e.first.behind = true := by
  cases e with
  | leaf t => simpa [El.isB, El.first] using h
  | pre _ _ => cases h
  | lst _ _ _ => cases h
theorem El.notB_first {e : El} (hw : e.WF) (h : e.isB = false) : e.first.kind = 5 → e.first.behind = false := by
  cases e with
  | leaf t => intro h5; have h5 : t.kind = 5 := h5; simpa [El.isB, El.first, h5] using h
  | pre t e => intro h5; have := hw.1; have h5 : t.kind = 5 := h5; omega
  | lst o es c => intro h5; have := hw.1; have h5 : o.kind = 5 := h5; omega
theorem El.notC_first {e : El} (hw : e.WF) (h : e.isC = false) : e.first.kind ≠ 5 := by
  cases e with
  | leaf t => simpa [El.isC, El.first] using h
  | pre t e => have := hw.1; show t.kind ≠ 5; omega
  | lst o es c => have := hw.1; show o.kind ≠ 5; omega
theorem WFL_getLast : ∀ (es : List El) (p : Option Tok) (e : El), WFL es → es.getLast? = some e → e.WF ∧ lastO p es = some e.last
  | [], _, _, _, h => by simp at h
  | [x], p, e, hw, h => by simp at h; subst h; exact ⟨hw.1, rfl⟩
  | x :: y :: es, p, e, hw, h => by
    rw [List.getLast?_cons_cons] at h
    exact WFL_getLast (y :: es) (some x.last) e hw.2 h
mutual
theorem El.lay_ok (W : Nat) : ∀ (e : El), e.WF → (∀ t ∈ e.toks, GT t) → ∀ p c0 g tail rest tl, BehC p e.toks → Okg p g e.first → Okp (some e.last) rest tl → Okp p (e.lay W c0 g tail ++ rest) tl
  | .leaf t, _, _, p, c0, g, tail, rest, tl, _, h1, h2 => by rw [El.lay]; exact h1.cons h2
  | .pre t e, hw, hg, p, c0, g, tail, rest, tl, hb, h1, h2 => by
    rw [El.lay]
    split
    · rename_i hf
      exact El.flat_ok _ hw hg (fits_com hf) p g rest tl h1 h2
    · have hge : ∀ u ∈ e.toks, GT u := fun u hu => hg u (by rw [El.toks]; exact List.mem_cons_of_mem _ hu)
      rw [El.toks] at hb
      exact h1.cons (El.lay_ok W e hw.2.2 hge (some t) _ [] tail rest tl hb.2 (okg_pre hw.1 (hge _ e.first_mem) hw.2.1) h2)
  | .lst o es c, hw, hg, p, c0, g, tail, rest, tl, hb, h1, h2 => by
    rw [El.lay]
    split
    · rename_i hf
      exact El.flat_ok _ hw hg (fits_com hf) p g rest tl h1 h2
    · have hge : ∀ u ∈ toksL es, GT u := fun u hu => hg u (by rw [El.toks]; simp [hu])
      have hgo := hg o (by rw [El.toks]; simp)
      have hgc := hg c (by rw [El.toks]; simp)
      have h2o := hw.1
      have h3c := hw.2.1
      rw [El.toks] at hb
      rw [List.cons_append, List.append_assoc]
      refine h1.cons (layL_ok W es hw.2.2 hge 0 (some o) _ _ _ _ _ tl hb.2.left (fun _ => .inr ⟨o, rfl, hgo, h2o⟩) (fun h => by omega) (fun _ h => style_ok o es h) (fun h => by omega) ?_)
      unfold closeGap
      cases hl : es.getLast? with
      | none =>
        have : es = [] := List.getLast?_eq_none_iff.1 hl
        subst this
        exact (okg_close (by omega) hgc h3c).cons h2
      | some e =>
        obtain ⟨hwe, hle⟩ := WFL_getLast es (some o) e hw.2.2 hl
        rw [hle]
        simp only
        cases hc : e.isC with
        | true => exact (okg_nl _ hgc (fun h => by omega)).cons h2
        | false => exact (okg_close (e.last_no5 hwe hc) hgc h3c).cons h2
theorem layL_ok (W : Nat) : ∀ (es : List El), WFL es → (∀ t ∈ toksL es, GT t) → ∀ n p cur c beside last rest tl, BehC p (toksL es) → (n = 0 → p = none ∨ ∃ q, p = some q ∧ GT q ∧ q.kind = 2) → (n ≠ 0 → ∃ q, p = some q) →
    (n = 0 → beside = true → BesideOk es) → (n = 1 → beside = true → ∀ e r, es = e :: r → (∀ q, p = some q → q.kind ≠ 5) ∧ e.isC = false) → Okp (lastO p es) rest tl → Okp p (layL W es n cur c beside last ++ rest) tl
  | [], _, _, n, p, cur, c, beside, last, rest, tl, _, _, _, _, _, h => by rw [layL]; exact h
  | e :: es, hw, hg, n, p, cur, c, beside, last, rest, tl, hb, h0, hn, hb0, hb1, h => by
    rw [layL, List.append_assoc]
    have hge : ∀ u ∈ e.toks, GT u := fun u hu => hg u (by rw [toksL]; exact List.mem_append_left _ hu)
    have hgs : ∀ u ∈ toksL es, GT u := fun u hu => hg u (by rw [toksL]; exact List.mem_append_right _ hu)
    rw [toksL] at hb
    have hbs : BehC (some e.last) (toksL es) := by
      obtain ⟨r, hr⟩ := e.toks_last
      rw [hr] at hb; exact hb.right
    have hbf : e.first.behind = true → endK p = true := by
      obtain ⟨r, hr⟩ := e.toks_first
      rw [hr] at hb; exact hb.1
    have hgf := hge _ e.first_mem
    refine El.lay_ok W e hw.1 hge p cur _ _ _ tl hb.left ?_ (layL_ok W es hw.2 hgs (n + 1) (some e.last) _ c beside last rest tl hbs (fun h => by omega) (fun _ => ⟨_, rfl⟩) (fun h => by omega) (fun hn1 hbe => ?_) h)
    · unfold gapOf
      by_cases hz : n = 0
      · rw [if_pos hz]
        rcases h0 hz with rfl | ⟨q, rfl, hq, hq2⟩
        · refine okg_top hgf (fun _ => ?_)
          cases hbb : e.first.behind with
          | false => rfl
          | true => have := hbf hbb; simp [endK] at this
        · refine okg_open hq hq2 hgf (fun _ => ?_)
          cases hbb : e.first.behind with
          | false => rfl
          | true => have := hbf hbb; simp [endK, hq2] at this
      · rw [if_neg hz]
        obtain ⟨q, rfl⟩ := hn hz
        cases hB : e.isB with
        | true =>
          obtain ⟨h5, hbb⟩ := El.isB_first hB
          have hek := hbf hbb
          rw [Bool.true_or, if_pos rfl]
          refine okg_sp ?_ hgf (fun _ => by rw [hbb, hek])
          simp [endK] at hek; omega
        | false =>
          rw [Bool.false_or]
          split
          · rename_i hx
            simp only [Bool.and_eq_true, beq_iff_eq] at hx
            obtain ⟨h1, h2⟩ := hb1 hx.1 hx.2 e es rfl
            exact okg_sp (h1 q rfl) hgf (fun h5 => absurd h5 (El.notC_first hw.1 h2))
          · exact okg_nl c hgf (El.notB_first hw.1 hB)
    · have hbo := hb0 (by omega) hbe
      intro x r hx
      subst hx
      exact ⟨fun q hq => by injection hq with hq; subst hq; exact hbo.1, hbo.2⟩
end
end Sc
end Go.Proofs.YtigdfhcmhidhbaaDoor
