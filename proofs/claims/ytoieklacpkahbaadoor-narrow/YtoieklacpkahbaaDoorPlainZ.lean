/- Plain functions: elements, and how they are laid out. No program here. -/
/- Plain laws: what is laid out has the same tokens. No program here. -/
/- Plain laws: what is laid out is read as the same tokens, is laid out again the same, and is neat. No program here. -/
import Derived.Test.YtoieklacpkahbaaDoorPlainW
namespace Go.Proofs.YtoieklacpkahbaaDoor
open Go.RowKit
namespace Sc
/-- An element: an atom or a comment; a prefix and an element; a list. -/
inductive El
  | leaf (t : Tok)
  | pre (t : Tok) (e : El)
  | lst (o : Tok) (es : List El) (c : Tok)
namespace El
def first : El → Tok
  | leaf t => t
  | pre t _ => t
  | lst o _ _ => o
def last : El → Tok
  | leaf t => t
  | pre _ e => e.last
  | lst _ _ c => c
end El
mutual
def El.toks : El → List Tok
  | .leaf t => [t]
  | .pre t e => t :: e.toks
  | .lst o es c => o :: (toksL es ++ [c])
def toksL : List El → List Tok
  | [] => []
  | e :: es => e.toks ++ toksL es
end
mutual
/-- An element as it may be. -/
def El.WF : El → Prop
  | .leaf t => t.kind = 1 ∨ t.kind = 5
  | .pre t e => t.kind = 4 ∧ leadsB t e.first = true ∧ e.WF
  | .lst o es c => o.kind = 2 ∧ c.kind = 3 ∧ WFL es
def WFL : List El → Prop
  | [] => True
  | e :: es => e.WF ∧ WFL es
end
theorem El.toks_first : ∀ e : El, ∃ r, e.toks = e.first :: r
  | .leaf _ => ⟨[], rfl⟩
  | .pre _ e => ⟨e.toks, rfl⟩
  | .lst _ _ _ => ⟨_, rfl⟩
theorem El.toks_last : ∀ e : El, ∃ r, e.toks = r ++ [e.last]
  | .leaf _ => ⟨[], rfl⟩
  | .pre t e => by
    obtain ⟨r, h⟩ := e.toks_last
    exact ⟨t :: r, by rw [El.toks, h]; rfl⟩
  | .lst o es _ => ⟨o :: toksL es, rfl⟩
def closes : List (Tok × List El) → List Tok
  | [] => []
  | (c, es) :: r => c :: (toksL es ++ closes r)
/-- Tokens that are lists are elements. -/
theorem lists_els : ∀ (ts : List Tok) (st : List Int), (∀ t ∈ ts, t.kind = 1 ∨ t.kind = 2 ∨ t.kind = 3 ∨ t.kind = 4 ∨ t.kind = 5) → (listsGo ts st).1 = 0 →
    ∃ es r, ts = toksL es ++ closes r ∧ WFL es ∧ r.length = st.length ∧ (∀ q ∈ r, q.1.kind = 3 ∧ WFL q.2) := by
  intro ts
  induction ts with
  | nil =>
    intro st _ h
    rw [listsGo] at h
    cases hs : st.getLast? with
    | some p => rw [hs] at h; simp at h
    | none =>
      have : st = [] := List.getLast?_eq_none_iff.1 hs
      subst this
      exact ⟨[], [], rfl, trivial, rfl, fun q hq => by simp at hq⟩
  | cons t ts ih =>
    intro st hk h
    have hkt := hk t (List.mem_cons_self ..)
    have hks := fun u hu => hk u (List.mem_cons_of_mem _ hu)
    rw [listsGo] at h
    by_cases h2 : t.kind = 2
    · rw [if_pos h2] at h
      split at h
      · simp at h
      · obtain ⟨es, r, e1, e2, e3, e4⟩ := ih _ hks h
        cases r with
        | nil => simp at e3
        | cons q r =>
          obtain ⟨c, es1⟩ := q
          have hq := e4 _ (List.mem_cons_self ..)
          refine ⟨.lst t es c :: es1, r, ?_, ⟨⟨h2, hq.1, e2⟩, hq.2⟩, by simpa using e3, fun q hq => e4 q (List.mem_cons_of_mem _ hq)⟩
          rw [e1, closes, toksL, El.toks]; simp
    · rw [if_neg h2] at h
      by_cases h3 : t.kind = 3
      · rw [if_pos h3] at h
        split at h
        · simp at h
        · obtain ⟨es, r, e1, e2, e3, e4⟩ := ih _ hks h
          refine ⟨[], (t, es) :: r, ?_, trivial, ?_, ?_⟩
          · rw [e1, closes]; simp [toksL]
          · rename_i hne
            rw [List.length_cons, e3, List.length_dropLast]; omega
          · intro q hq
            rcases List.mem_cons.1 hq with rfl | hq
            · exact ⟨h3, e2⟩
            · exact e4 q hq
      · rw [if_neg h3] at h
        by_cases h4 : t.kind = 4
        · rw [if_pos h4] at h
          split at h
          · rename_i hl
            obtain ⟨es, r, e1, e2, e3, e4⟩ := ih _ hks h
            cases es with
            | nil =>
              exfalso
              cases r with
              | nil => rw [e1] at hl; simp [toksL, closes, leads] at hl
              | cons q r =>
                obtain ⟨c, es1⟩ := q
                have hq := e4 _ (List.mem_cons_self ..)
                rw [e1, toksL, closes, List.nil_append, leads, leadsB, if_pos hq.1] at hl
                cases hl
            | cons e es =>
              refine ⟨.pre t e :: es, r, ?_, ⟨⟨h4, ?_, e2.1⟩, e2.2⟩, e3, e4⟩
              · rw [e1]; simp [toksL, El.toks]
              · obtain ⟨x, hx⟩ := e.toks_first
                rw [e1, toksL, hx] at hl
                exact hl
          · simp at h
        · rw [if_neg h4] at h
          obtain ⟨es, r, e1, e2, e3, e4⟩ := ih _ hks h
          refine ⟨.leaf t :: es, r, ?_, ⟨?_, e2⟩, e3, e4⟩
          · rw [e1]; rfl
          · show t.kind = 1 ∨ t.kind = 5; omega
/-- A token without its place. -/
def erase (t : Tok) : Tok := { t with place := 0 }
theorem erase_key {t u : Tok} (h : key t = key u) : erase t = erase u := by
  unfold erase; rw [key_kind h, key_text h, key_behind h]
theorem key_erase (t : Tok) : key (erase t) = key t := rfl
theorem map_erase_key {ts us : List Tok} (h : ts.map key = us.map key) : ts.map erase = us.map erase := by
  induction ts generalizing us with
  | nil => cases us with
    | nil => rfl
    | cons u us => simp at h
  | cons t ts ih => cases us with
    | nil => simp at h
    | cons u us =>
      simp only [List.map_cons, List.cons.injEq] at h ⊢
      exact ⟨erase_key h.1, ih h.2⟩
theorem els_of_scan {l : List UInt8} {ts : List Tok} {pl : Int} (h : scanRes l = (ts, 0, pl)) : ∃ es, toksL es = ts.map erase ∧ WFL es := by
  have hg := scan_good h
  obtain ⟨_, _, _, h4, _⟩ := scan_ok h
  have h5 : (listsGo (ts.map erase) []).1 = 0 := by
    rw [← h4]; unfold listsRes
    refine listsGo_key _ _ _ _ ?_ rfl
    rw [List.map_map]; rfl
  obtain ⟨es, r, e1, e2, e3, _⟩ := lists_els _ _ (fun t ht => by
    obtain ⟨u, hu, rfl⟩ := List.mem_map.1 ht
    exact (hg u hu).2.1.2.2.2) h5
  have : r = [] := List.eq_nil_of_length_eq_zero e3
  subst this
  exact ⟨es, by rw [e1]; simp [closes], e2⟩

/-- Where the last line of a text ends. -/
def colB (c : Nat) (l : List UInt8) : Nat := l.foldl (fun c b => if b = 10 then 0 else c + 1) c
mutual
/-- The flat text, behind the blanks g. -/
def El.flat : El → List UInt8 → List (List UInt8 × Tok)
  | .leaf t, g => [(g, t)]
  | .pre t e, g => (g, t) :: e.flat []
  | .lst o es c, g => (g, o) :: (flatL es [] ++ [([], c)])
def flatL : List El → List UInt8 → List (List UInt8 × Tok)
  | [], _ => []
  | e :: es, g => e.flat g ++ flatL es [32]
end
def El.flen (e : El) : Nat := (render (e.flat []) []).length
def El.com (e : El) : Bool := e.toks.any (fun t => t.kind == 5)
def fits (W : Nat) (e : El) (col tail : Nat) : Bool := !e.com && decide (col + e.flen + tail ≤ W)
def El.isB : El → Bool
  | .leaf t => (t.kind == 5) && t.behind
  | _ => false
def El.isC : El → Bool
  | .leaf t => t.kind == 5
  | _ => false
def tailOf : List El → Nat → Nat
  | [], last => last
  | e :: _, _ => if e.isB then e.first.text.length + 1 else 0
def forms : List (List UInt8) := [[100, 101, 102, 105, 110, 101], [108, 97, 109, 98, 100, 97], [108, 101, 116], [108, 101, 116, 42], [108, 101, 116, 114, 101, 99], [119, 104, 101, 110], [117, 110, 108, 101, 115, 115]]
def blocks : List (List UInt8) := [[98, 101, 103, 105, 110], [99, 111, 110, 100], [101, 108, 115, 101], [100, 111]]
/-- By how much a list's lines are further in than it; does its second element stand beside the first one? -/
def style (o : Tok) : List El → Nat × Bool
  | .leaf f :: es =>
    if f.kind = 1 then
      if o.text = [40] ∧ f.text ∈ forms then (2, match es with | [] => true | e :: _ => !e.isC)
      else if o.text = [40] ∧ f.text ∈ blocks then (2, false)
      else match es with
        | [] => (o.text.length, false)
        | e :: _ => if f.text.take 2 ≠ [35, 124] ∧ e.isC = false then (o.text.length + f.text.length + 1, true) else (o.text.length, false)
    else (o.text.length, false)
  | _ => (o.text.length, false)
def nl (c : Nat) : List UInt8 := 10 :: List.replicate c 32
def gapOf (e : El) (n c : Nat) (beside : Bool) : List UInt8 := if n = 0 then [] else if e.isB || (n == 1 && beside) then [32] else nl c
def closeGap (es : List El) (c : Nat) : List UInt8 := match es.getLast? with | some e => if e.isC then nl c else [] | none => []
mutual
/-- How an element is laid out: the column ahead of the blanks g, these, the tail. -/
def El.lay (W : Nat) : El → Nat → List UInt8 → Nat → List (List UInt8 × Tok)
  | .leaf t, _, g, _ => [(g, t)]
  | .pre t e, c0, g, tail => if fits W (.pre t e) (colB c0 g) tail then (El.pre t e).flat g else (g, t) :: e.lay W (colB c0 g + t.text.length) [] tail
  | .lst o es c, c0, g, tail => if fits W (.lst o es c) (colB c0 g) tail then (El.lst o es c).flat g else
      (g, o) :: (layL W es 0 (colB c0 g + o.text.length) (colB c0 g + (style o es).1) (style o es).2 (tail + 1) ++ [(closeGap es (colB c0 g + (style o es).1), c)])
def layL (W : Nat) : List El → Nat → Nat → Nat → Bool → Nat → List (List UInt8 × Tok)
  | [], _, _, _, _, _ => []
  | e :: es, n, cur, c, beside, last =>
    e.lay W cur (gapOf e n c beside) (tailOf es last) ++ layL W es (n + 1) (colB cur (render (e.lay W cur (gapOf e n c beside) (tailOf es last)) [])) c beside last
end
/-- A whole text laid out. -/
def layAll (W : Nat) (es : List El) : List UInt8 := if es.isEmpty then [] else render (layL W es 0 0 0 false 0) [10]
end Sc
end Go.Proofs.YtoieklacpkahbaaDoor
namespace Go.Proofs.YtoieklacpkahbaaDoor
open Go.RowKit
namespace Sc
/-- A token as it is read, and what it looks like. -/
def GT (t : Tok) : Prop := Good t ∧ Shape t
/-- A comment that is Behind stands behind an atom or a bracket that closes. -/
def BehC : Option Tok → List Tok → Prop
  | _, [] => True
  | p, t :: ts => (t.behind = true → endK p = true) ∧ BehC (some t) ts
theorem BehC.left {xs ys : List Tok} {p : Option Tok} (h : BehC p (xs ++ ys)) : BehC p xs := by
  induction xs generalizing p with
  | nil => trivial
  | cons x xs ih => exact ⟨h.1, ih h.2⟩
theorem BehC.right {xs ys : List Tok} {x : Tok} {p : Option Tok} (h : BehC p (xs ++ [x] ++ ys)) : BehC (some x) ys := by
  induction xs generalizing p with
  | nil => exact h.2
  | cons y xs ih => exact ih h.2
theorem BehC.append {xs ys : List Tok} {p : Option Tok} (h : BehC p xs) (k : BehC none ys) : BehC p (xs ++ ys) := by
  induction xs generalizing p with
  | nil => cases ys with
    | nil => trivial
    | cons y ys => exact ⟨fun hb => absurd (k.1 hb) (by simp [endK]), k.2⟩
  | cons x xs ih => exact ⟨h.1, ih h.2⟩
theorem BehC.snoc {xs : List Tok} {x : Tok} {p : Option Tok} (h : BehC p xs) (k : x.behind = true → endsEl xs = true) : BehC p (xs ++ [x]) := by
  induction xs generalizing p with
  | nil => exact ⟨fun hb => absurd (k hb) (by simp [endsEl]), trivial⟩
  | cons y xs ih =>
    refine ⟨h.1, ?_⟩
    cases xs with
    | nil => exact ⟨fun hb => by have := k hb; simpa [endsEl, endK] using this, trivial⟩
    | cons z xs => exact ih h.2 (fun hb => by have := k hb; simpa [endsEl] using this)
theorem BehC.map {xs : List Tok} {p q : Option Tok} (f : Tok → Tok) (hf : ∀ t, (f t).behind = t.behind ∧ (f t).kind = t.kind) (hp : endK p = endK q) (h : BehC p xs) : BehC q (xs.map f) := by
  induction xs generalizing p q with
  | nil => trivial
  | cons x xs ih =>
    refine ⟨fun hb => ?_, ih ?_ h.2⟩
    · rw [← hp]; exact h.1 (by rw [← (hf x).1]; exact hb)
    · simp only [endK]; rw [(hf x).2]
theorem lineGo_behC (l : List UInt8) : ∀ (f a : Nat) (acc : List Tok), BehC none acc → BehC none (lineGo l f a acc).1 := by
  intro f
  induction f with
  | zero => intro a acc h; exact h
  | succ f ih =>
    intro a acc h
    rw [lineGo]
    split
    · exact h
    · split
      · refine ih _ _ (h.snoc fun hb => ?_)
        simp only [Bool.and_eq_true] at hb; exact hb.2
      · trivial
theorem toksGo_behC : ∀ (ls : List (List UInt8)) (b : Nat) (acc : List Tok), BehC none acc → BehC none (toksGo ls b acc).1 := by
  intro ls
  induction ls with
  | nil => intro b acc h; exact h
  | cons l ls ih =>
    intro b acc h
    rw [toksGo]
    split
    · exact ih _ _ (h.append ((lineGo_behC l _ _ [] trivial).map _ (fun t => ⟨rfl, rfl⟩) rfl))
    · trivial
theorem scan_behC {l : List UInt8} {ts : List Tok} {pl : Int} (h : scanRes l = (ts, 0, pl)) : BehC none ts := by
  have := toksGo_behC (lns l) 0 [] trivial
  obtain ⟨_, _, h3, _⟩ := scan_ok h
  have e : (toksGo (lns l) 0 []).1 = ts := by
    show (toksRes l).1 = ts; rw [h3]
  rw [e] at this; exact this

/-- May t stand behind p, with the blanks g between? -/
def Okg (p : Option Tok) (g : List UInt8) (t : Tok) : Prop := (∀ c ∈ g, bl3 c = true) ∧ Good t ∧ (∀ q, p = some q → (g = [] → Glue q t) ∧ (q.kind = 5 → ∃ r, g = 10 :: r)) ∧ (t.kind = 5 → t.behind = (!(g.contains 10) && endK p))
theorem Okg.cons {p : Option Tok} {g : List UInt8} {t : Tok} {ps : List (List UInt8 × Tok)} {tl : List UInt8} (h : Okg p g t) (k : Okp (some t) ps tl) : Okp p ((g, t) :: ps) tl := ⟨h.1, h.2.1, h.2.2.1, h.2.2.2, k⟩
theorem okg_open {q t : Tok} (hq : GT q) (h2 : q.kind = 2) (ht : GT t) (hb : t.kind = 5 → t.behind = false) : Okg (some q) [] t := by
  refine ⟨fun c hc => by simp at hc, ht.1, fun x hx => ?_, fun h => ?_⟩
  · injection hx with hx; subst hx
    exact ⟨fun _ => ⟨.inl h2, fun h44 => by have := hq.2.2.1 h44; omega⟩, fun h5 => by omega⟩
  · rw [hb h]; simp [endK, h2]
theorem okg_top {t : Tok} (ht : GT t) (hb : t.kind = 5 → t.behind = false) : Okg none [] t :=
  ⟨fun c hc => by simp at hc, ht.1, (fun x (hx : none = some x) => by cases hx), fun h => by rw [hb h]; simp [endK]⟩
theorem okg_pre {q t : Tok} (h4 : q.kind = 4) (ht : GT t) (hl : leadsB q t = true) : Okg (some q) [] t := by
  have h3 : t.kind ≠ 3 := fun h => by rw [leadsB, if_pos h] at hl; cases hl
  have h5 : t.kind ≠ 5 := fun h => by rw [leadsB, if_neg h3, if_pos h] at hl; cases hl
  refine ⟨fun c hc => by simp at hc, ht.1, fun x hx => ?_, fun h => absurd h h5⟩
  injection hx with hx; subst hx
  refine ⟨fun _ => ⟨.inr (.inl h4), fun h44 => ?_⟩, fun h5 => by omega⟩
  by_cases h1 : t.kind = 1
  · rw [leadsB, if_neg h3, if_neg h5, if_pos h1, h44] at hl
    simpa using hl
  · exact ht.2.2.2.1 (by have := ht.2.2.2.2; omega)
theorem okg_close {q t : Tok} (h5 : q.kind ≠ 5) (ht : GT t) (h3 : t.kind = 3) : Okg (some q) [] t := by
  refine ⟨fun c hc => by simp at hc, ht.1, fun x hx => ?_, fun h => by omega⟩
  injection hx with hx; subst hx
  exact ⟨fun _ => ⟨.inr (.inr ⟨h5, h3⟩), fun _ => by rw [ht.1.close h3]; decide⟩, fun h => absurd h h5⟩
theorem okg_sp {q t : Tok} (h5 : q.kind ≠ 5) (ht : GT t) (hb : t.kind = 5 → t.behind = endK (some q)) : Okg (some q) [32] t := by
  refine ⟨fun c hc => by simp at hc; subst hc; rfl, ht.1, fun x hx => ?_, fun h => ?_⟩
  · injection hx with hx; subst hx
    exact ⟨fun h => by simp at h, fun h => absurd h h5⟩
  · rw [hb h]; simp
theorem okg_nl {p : Option Tok} {t : Tok} (c : Nat) (ht : GT t) (hb : t.kind = 5 → t.behind = false) : Okg p (nl c) t := by
  refine ⟨fun x hx => ?_, ht.1, fun x hx => ⟨fun h => by simp [nl] at h, fun _ => ⟨_, rfl⟩⟩, fun h => ?_⟩
  · unfold nl at hx
    rcases List.mem_cons.1 hx with rfl | hx
    · rfl
    · rw [(List.mem_replicate.1 hx).2]; rfl
  · rw [hb h]; simp [nl]
theorem El.first_mem (e : El) : e.first ∈ e.toks := by
  obtain ⟨r, h⟩ := e.toks_first; rw [h]; exact List.mem_cons_self ..
theorem El.last_mem (e : El) : e.last ∈ e.toks := by
  obtain ⟨r, h⟩ := e.toks_last; rw [h]; simp
def lastO : Option Tok → List El → Option Tok
  | p, [] => p
  | _, e :: es => lastO (some e.last) es
theorem lastO_some (q : Tok) : ∀ es, ∃ x, lastO (some q) es = some x
  | [] => ⟨q, rfl⟩
  | e :: es => lastO_some e.last es
mutual
theorem El.flat_ok : ∀ (e : El), e.WF → (∀ t ∈ e.toks, GT t) → (∀ t ∈ e.toks, t.kind ≠ 5) → ∀ p g rest tl, Okg p g e.first → Okp (some e.last) rest tl → Okp p (e.flat g ++ rest) tl
  | .leaf t, _, _, _, p, g, rest, tl, h1, h2 => by rw [El.flat]; exact h1.cons h2
  | .pre t e, hw, hg, h5, p, g, rest, tl, h1, h2 => by
    rw [El.flat, List.cons_append]
    have hge : ∀ u ∈ e.toks, GT u := fun u hu => hg u (by rw [El.toks]; exact List.mem_cons_of_mem _ hu)
    have h5e : ∀ u ∈ e.toks, u.kind ≠ 5 := fun u hu => h5 u (by rw [El.toks]; exact List.mem_cons_of_mem _ hu)
    exact h1.cons (El.flat_ok e hw.2.2 hge h5e (some t) [] rest tl (okg_pre hw.1 (hge _ e.first_mem) hw.2.1) h2)
  | .lst o es c, hw, hg, h5, p, g, rest, tl, h1, h2 => by
    rw [El.flat, List.cons_append, List.append_assoc]
    have hge : ∀ u ∈ toksL es, GT u := fun u hu => hg u (by rw [El.toks]; simp [hu])
    have h5e : ∀ u ∈ toksL es, u.kind ≠ 5 := fun u hu => h5 u (by rw [El.toks]; simp [hu])
    have hgo := hg o (by rw [El.toks]; simp)
    have hgc := hg c (by rw [El.toks]; simp)
    refine h1.cons (flatL_ok es hw.2.2 hge h5e o [] _ tl (by have := hw.1; omega) (fun e r he => ?_) ?_)
    · have hf : e.first ∈ toksL es := by rw [he, toksL]; exact List.mem_append_left _ e.first_mem
      exact okg_open hgo hw.1 (hge _ hf) (fun h => absurd h (h5e _ hf))
    · obtain ⟨x, hx, hx5⟩ := lastO_no5 es o (by have := hw.1; omega) h5e
      rw [hx]
      exact (okg_close hx5 hgc hw.2.1).cons h2
theorem lastO_no5 : ∀ (es : List El) (q : Tok), q.kind ≠ 5 → (∀ t ∈ toksL es, t.kind ≠ 5) → ∃ x, lastO (some q) es = some x ∧ x.kind ≠ 5
  | [], q, h, _ => ⟨q, rfl, h⟩
  | e :: es, _, _, h => lastO_no5 es e.last (h _ (by rw [toksL]; exact List.mem_append_left _ e.last_mem)) (fun t ht => h t (by rw [toksL]; exact List.mem_append_right _ ht))
theorem flatL_ok : ∀ (es : List El), WFL es → (∀ t ∈ toksL es, GT t) → (∀ t ∈ toksL es, t.kind ≠ 5) → ∀ q g rest tl, q.kind ≠ 5 → (∀ e r, es = e :: r → Okg (some q) g e.first) → Okp (lastO (some q) es) rest tl → Okp (some q) (flatL es g ++ rest) tl
  | [], _, _, _, q, g, rest, tl, _, _, h => by rw [flatL]; exact h
  | e :: es, hw, hg, h5, q, g, rest, tl, _, h1, h2 => by
    rw [flatL, List.append_assoc]
    have hge : ∀ u ∈ e.toks, GT u := fun u hu => hg u (by rw [toksL]; exact List.mem_append_left _ hu)
    have h5e : ∀ u ∈ e.toks, u.kind ≠ 5 := fun u hu => h5 u (by rw [toksL]; exact List.mem_append_left _ hu)
    have hgs : ∀ u ∈ toksL es, GT u := fun u hu => hg u (by rw [toksL]; exact List.mem_append_right _ hu)
    have h5s : ∀ u ∈ toksL es, u.kind ≠ 5 := fun u hu => h5 u (by rw [toksL]; exact List.mem_append_right _ hu)
    have hl5 := h5e _ e.last_mem
    refine El.flat_ok e hw.1 hge h5e (some q) g _ tl (h1 e es rfl) (flatL_ok es hw.2 hgs h5s e.last [32] rest tl hl5 (fun x r hx => ?_) h2)
    have hf : x.first ∈ toksL es := by rw [hx, toksL]; exact List.mem_append_left _ x.first_mem
    exact okg_sp hl5 (hgs _ hf) (fun h => absurd h (h5s _ hf))
end
theorem El.last_no5 : ∀ e : El, e.WF → e.isC = false → e.last.kind ≠ 5
  | .leaf t, _, h => by simpa [El.isC, El.last] using h
  | .pre t e, hw, _ => by
    refine El.last_no5 e hw.2.2 ?_
    cases e with
    | leaf u =>
      have hl := hw.2.1
      by_cases h5 : u.kind = 5
      · rw [show (El.leaf u).first = u from rfl, leadsB, if_neg (by omega), if_pos h5] at hl; cases hl
      · simp [El.isC, h5]
    | pre _ _ => rfl
    | lst _ _ _ => rfl
  | .lst o es c, hw, _ => by have := hw.2.1; simp only [El.last]; omega
/-- The second element may stand beside the first one. -/
def BesideOk : List El → Prop
  | e :: f :: _ => e.last.kind ≠ 5 ∧ f.isC = false
  | _ => True
theorem style_ok (o : Tok) (es : List El) (h : (style o es).2 = true) : BesideOk es := by
  cases es with
  | nil => trivial
  | cons e es =>
    cases es with
    | nil => trivial
    | cons f es =>
      cases e with
      | pre _ _ => simp [style] at h
      | lst _ _ _ => simp [style] at h
      | leaf t =>
        rw [style] at h
        split at h
        · rename_i h1
          refine ⟨by show t.kind ≠ 5; omega, ?_⟩
          split at h
          · simpa using h
          · split at h
            · simp at h
            · split at h
              · rename_i h2; exact h2.2
              · simp at h
        · simp at h
theorem fits_com {W : Nat} {e : El} {col tail : Nat} (h : fits W e col tail = true) : ∀ t ∈ e.toks, t.kind ≠ 5 := by
  intro t ht h5
  unfold fits El.com at h
  simp only [Bool.and_eq_true, Bool.not_eq_true'] at h
  have := List.any_eq_false.1 h.1 t ht
  simp [h5] at this
theorem El.isB_first {e : El} (h : e.isB = true) : e.first.kind = 5 ∧ e.first.behind = true := by
  cases e with
  | leaf t => simpa [El.isB, El.first] using h
  | pre _ _ => cases h
  | lst _ _ _ => cases h
theorem El.notB_first {e : El} (hw : e.WF) (h : e.isB = false) : e.first.kind = 5 → e.first.behind = false := by
  cases e with
  | leaf t => intro h5; have h5 : t.kind = 5 := h5; simpa [El.isB, El.first, h5] using h
  | pre t e => intro h5; have := hw.1; have h5 : t.kind = 5 := h5; omega
  | lst o es c => intro h5; have := hw.1; have h5 : o.kind = 5 := h5; omega
theorem El.notC_first {e : El} (hw : e.WF) (h : e.isC = false) : e.first.kind ≠ 5 := by
  cases e with
  | leaf t => simpa [El.isC, El.first] using h
  | pre t e => have := hw.1; show t.kind ≠ 5; omega
  | lst o es c => have := hw.1; show o.kind ≠ 5; omega
theorem WFL_getLast : ∀ (es : List El) (p : Option Tok) (e : El), WFL es → es.getLast? = some e → e.WF ∧ lastO p es = some e.last
  | [], _, _, _, h => by simp at h
  | [x], p, e, hw, h => by simp at h; subst h; exact ⟨hw.1, rfl⟩
  | x :: y :: es, p, e, hw, h => by
    rw [List.getLast?_cons_cons] at h
    exact WFL_getLast (y :: es) (some x.last) e hw.2 h
mutual
theorem El.lay_ok (W : Nat) : ∀ (e : El), e.WF → (∀ t ∈ e.toks, GT t) → ∀ p c0 g tail rest tl, BehC p e.toks → Okg p g e.first → Okp (some e.last) rest tl → Okp p (e.lay W c0 g tail ++ rest) tl
  | .leaf t, _, _, p, c0, g, tail, rest, tl, _, h1, h2 => by rw [El.lay]; exact h1.cons h2
  | .pre t e, hw, hg, p, c0, g, tail, rest, tl, hb, h1, h2 => by
    rw [El.lay]
    split
    · rename_i hf
      exact El.flat_ok _ hw hg (fits_com hf) p g rest tl h1 h2
    · have hge : ∀ u ∈ e.toks, GT u := fun u hu => hg u (by rw [El.toks]; exact List.mem_cons_of_mem _ hu)
      rw [El.toks] at hb
      exact h1.cons (El.lay_ok W e hw.2.2 hge (some t) _ [] tail rest tl hb.2 (okg_pre hw.1 (hge _ e.first_mem) hw.2.1) h2)
  | .lst o es c, hw, hg, p, c0, g, tail, rest, tl, hb, h1, h2 => by
    rw [El.lay]
    split
    · rename_i hf
      exact El.flat_ok _ hw hg (fits_com hf) p g rest tl h1 h2
    · have hge : ∀ u ∈ toksL es, GT u := fun u hu => hg u (by rw [El.toks]; simp [hu])
      have hgo := hg o (by rw [El.toks]; simp)
      have hgc := hg c (by rw [El.toks]; simp)
      have h2o := hw.1
      have h3c := hw.2.1
      rw [El.toks] at hb
      rw [List.cons_append, List.append_assoc]
      refine h1.cons (layL_ok W es hw.2.2 hge 0 (some o) _ _ _ _ _ tl hb.2.left (fun _ => .inr ⟨o, rfl, hgo, h2o⟩) (fun h => by omega) (fun _ h => style_ok o es h) (fun h => by omega) ?_)
      unfold closeGap
      cases hl : es.getLast? with
      | none =>
        have : es = [] := List.getLast?_eq_none_iff.1 hl
        subst this
        exact (okg_close (by omega) hgc h3c).cons h2
      | some e =>
        obtain ⟨hwe, hle⟩ := WFL_getLast es (some o) e hw.2.2 hl
        rw [hle]
        simp only
        cases hc : e.isC with
        | true => exact (okg_nl _ hgc (fun h => by omega)).cons h2
        | false => exact (okg_close (e.last_no5 hwe hc) hgc h3c).cons h2
theorem layL_ok (W : Nat) : ∀ (es : List El), WFL es → (∀ t ∈ toksL es, GT t) → ∀ n p cur c beside last rest tl, BehC p (toksL es) → (n = 0 → p = none ∨ ∃ q, p = some q ∧ GT q ∧ q.kind = 2) → (n ≠ 0 → ∃ q, p = some q) →
    (n = 0 → beside = true → BesideOk es) → (n = 1 → beside = true → ∀ e r, es = e :: r → (∀ q, p = some q → q.kind ≠ 5) ∧ e.isC = false) → Okp (lastO p es) rest tl → Okp p (layL W es n cur c beside last ++ rest) tl
  | [], _, _, n, p, cur, c, beside, last, rest, tl, _, _, _, _, _, h => by rw [layL]; exact h
  | e :: es, hw, hg, n, p, cur, c, beside, last, rest, tl, hb, h0, hn, hb0, hb1, h => by
    rw [layL, List.append_assoc]
    have hge : ∀ u ∈ e.toks, GT u := fun u hu => hg u (by rw [toksL]; exact List.mem_append_left _ hu)
    have hgs : ∀ u ∈ toksL es, GT u := fun u hu => hg u (by rw [toksL]; exact List.mem_append_right _ hu)
    rw [toksL] at hb
    have hbs : BehC (some e.last) (toksL es) := by
      obtain ⟨r, hr⟩ := e.toks_last
      rw [hr] at hb; exact hb.right
    have hbf : e.first.behind = true → endK p = true := by
      obtain ⟨r, hr⟩ := e.toks_first
      rw [hr] at hb; exact hb.1
    have hgf := hge _ e.first_mem
    refine El.lay_ok W e hw.1 hge p cur _ _ _ tl hb.left ?_ (layL_ok W es hw.2 hgs (n + 1) (some e.last) _ c beside last rest tl hbs (fun h => by omega) (fun _ => ⟨_, rfl⟩) (fun h => by omega) (fun hn1 hbe => ?_) h)
    · unfold gapOf
      by_cases hz : n = 0
      · rw [if_pos hz]
        rcases h0 hz with rfl | ⟨q, rfl, hq, hq2⟩
        · refine okg_top hgf (fun _ => ?_)
          cases hbb : e.first.behind with
          | false => rfl
          | true => have := hbf hbb; simp [endK] at this
        · refine okg_open hq hq2 hgf (fun _ => ?_)
          cases hbb : e.first.behind with
          | false => rfl
          | true => have := hbf hbb; simp [endK, hq2] at this
      · rw [if_neg hz]
        obtain ⟨q, rfl⟩ := hn hz
        cases hB : e.isB with
        | true =>
          obtain ⟨h5, hbb⟩ := El.isB_first hB
          have hek := hbf hbb
          rw [Bool.true_or, if_pos rfl]
          refine okg_sp ?_ hgf (fun _ => by rw [hbb, hek])
          simp [endK] at hek; omega
        | false =>
          rw [Bool.false_or]
          split
          · rename_i hx
            simp only [Bool.and_eq_true, beq_iff_eq] at hx
            obtain ⟨h1, h2⟩ := hb1 hx.1 hx.2 e es rfl
            exact okg_sp (h1 q rfl) hgf (fun h5 => absurd h5 (El.notC_first hw.1 h2))
          · exact okg_nl c hgf (El.notB_first hw.1 hB)
    · have hbo := hb0 (by omega) hbe
      intro x r hx
      subst hx
      exact ⟨fun q hq => by injection hq with hq; subst hq; exact hbo.1, hbo.2⟩
end
end Sc
end Go.Proofs.YtoieklacpkahbaaDoor
namespace Go.Proofs.YtoieklacpkahbaaDoor
open Go.RowKit
namespace Sc
mutual
theorem El.flat_toks : ∀ (e : El) (g : List UInt8), (e.flat g).map (·.2) = e.toks
  | .leaf _, _ => rfl
  | .pre t e, g => by rw [El.flat, El.toks, List.map_cons, El.flat_toks e []]
  | .lst o es c, g => by rw [El.flat, El.toks, List.map_cons, List.map_append, flatL_toks es []]; rfl
theorem flatL_toks : ∀ (es : List El) (g : List UInt8), (flatL es g).map (·.2) = toksL es
  | [], _ => rfl
  | e :: es, g => by rw [flatL, toksL, List.map_append, El.flat_toks e g, flatL_toks es [32]]
end
mutual
theorem El.lay_toks (W : Nat) : ∀ (e : El) (c0 : Nat) (g : List UInt8) (tail : Nat), (e.lay W c0 g tail).map (·.2) = e.toks
  | .leaf _, _, _, _ => rfl
  | .pre t e, c0, g, tail => by
    rw [El.lay]
    split
    · exact El.flat_toks _ g
    · rw [El.toks, List.map_cons, El.lay_toks W e]
  | .lst o es c, c0, g, tail => by
    rw [El.lay]
    split
    · exact El.flat_toks _ g
    · rw [El.toks, List.map_cons, List.map_append, layL_toks W es]; rfl
theorem layL_toks (W : Nat) : ∀ (es : List El) (n cur c : Nat) (beside : Bool) (last : Nat), (layL W es n cur c beside last).map (·.2) = toksL es
  | [], _, _, _, _, _ => rfl
  | e :: es, n, cur, c, beside, last => by rw [layL, toksL, List.map_append, El.lay_toks W e, layL_toks W es]
end
/-- What stands ahead of a token that is laid out. -/
def GapForm (g : List UInt8) : Prop := g = [] ∨ g = [32] ∨ ∃ n, g = nl n
mutual
theorem El.flat_form : ∀ (e : El) (g : List UInt8), GapForm g → ∀ q ∈ e.flat g, GapForm q.1
  | .leaf t, g, h, q, hq => by rw [El.flat] at hq; simp at hq; subst hq; exact h
  | .pre t e, g, h, q, hq => by
    rw [El.flat] at hq
    rcases List.mem_cons.1 hq with rfl | hq
    · exact h
    · exact El.flat_form e [] (.inl rfl) q hq
  | .lst o es c, g, h, q, hq => by
    rw [El.flat] at hq
    rcases List.mem_cons.1 hq with rfl | hq
    · exact h
    · rcases List.mem_append.1 hq with hq | hq
      · exact flatL_form es [] (.inl rfl) q hq
      · simp at hq; subst hq; exact .inl rfl
theorem flatL_form : ∀ (es : List El) (g : List UInt8), GapForm g → ∀ q ∈ flatL es g, GapForm q.1
  | [], _, _, q, hq => by rw [flatL] at hq; simp at hq
  | e :: es, g, h, q, hq => by
    rw [flatL] at hq
    rcases List.mem_append.1 hq with hq | hq
    · exact El.flat_form e g h q hq
    · exact flatL_form es [32] (.inr (.inl rfl)) q hq
end
theorem gapOf_form (e : El) (n c : Nat) (beside : Bool) : GapForm (gapOf e n c beside) := by
  unfold gapOf
  split
  · exact .inl rfl
  · split
    · exact .inr (.inl rfl)
    · exact .inr (.inr ⟨c, rfl⟩)
theorem closeGap_form (es : List El) (c : Nat) : GapForm (closeGap es c) := by
  unfold closeGap
  split
  · split
    · exact .inr (.inr ⟨c, rfl⟩)
    · exact .inl rfl
  · exact .inl rfl
mutual
theorem El.lay_form (W : Nat) : ∀ (e : El) (c0 : Nat) (g : List UInt8) (tail : Nat), GapForm g → ∀ q ∈ e.lay W c0 g tail, GapForm q.1
  | .leaf t, _, g, _, h, q, hq => by rw [El.lay] at hq; simp at hq; subst hq; exact h
  | .pre t e, c0, g, tail, h, q, hq => by
    rw [El.lay] at hq
    split at hq
    · exact El.flat_form _ g h q hq
    · rcases List.mem_cons.1 hq with rfl | hq
      · exact h
      · exact El.lay_form W e _ [] tail (.inl rfl) q hq
  | .lst o es c, c0, g, tail, h, q, hq => by
    rw [El.lay] at hq
    split at hq
    · exact El.flat_form _ g h q hq
    · rcases List.mem_cons.1 hq with rfl | hq
      · exact h
      · rcases List.mem_append.1 hq with hq | hq
        · exact layL_form W es _ _ _ _ _ q hq
        · simp at hq; subst hq; exact closeGap_form _ _
theorem layL_form (W : Nat) : ∀ (es : List El) (n cur c : Nat) (beside : Bool) (last : Nat), ∀ q ∈ layL W es n cur c beside last, GapForm q.1
  | [], _, _, _, _, _, q, hq => by rw [layL] at hq; simp at hq
  | e :: es, n, cur, c, beside, last, q, hq => by
    rw [layL] at hq
    rcases List.mem_append.1 hq with hq | hq
    · exact El.lay_form W e _ _ _ (gapOf_form _ _ _ _) q hq
    · exact layL_form W es _ _ _ _ _ q hq
end
theorem El.flat_head : ∀ (e : El) (g : List UInt8), ∃ r, e.flat g = (g, e.first) :: r
  | .leaf _, _ => ⟨[], rfl⟩
  | .pre _ _, _ => ⟨_, rfl⟩
  | .lst _ _ _, _ => ⟨_, rfl⟩
theorem El.lay_head (W : Nat) (e : El) (c0 : Nat) (g : List UInt8) (tail : Nat) : ∃ r, e.lay W c0 g tail = (g, e.first) :: r := by
  cases e with
  | leaf t => exact ⟨[], rfl⟩
  | pre t e =>
    rw [El.lay]
    split
    · exact El.flat_head _ g
    · exact ⟨_, rfl⟩
  | lst o es c =>
    rw [El.lay]
    split
    · exact El.flat_head _ g
    · exact ⟨_, rfl⟩
theorem erase_good {t : Tok} (h : Good t) : Good (erase t) := ⟨h.no10, h.head, h.close, h.self, h.beh⟩
theorem erase_shape {t : Tok} (h : Shape t) : Shape (erase t) := h
/-- The elements of tokens (of the first ones found). -/
noncomputable def parse (ts : List Tok) : List El := by
  classical
  exact if h : ∃ es, toksL es = ts ∧ WFL es then Classical.choose h else []
theorem parse_spec {ts : List Tok} (h : ∃ es, toksL es = ts ∧ WFL es) : toksL (parse ts) = ts ∧ WFL (parse ts) := by
  unfold parse
  rw [dif_pos h]
  exact Classical.choose_spec h
/-- Format, of tokens. -/
noncomputable def fmtT (W : Nat) (ts : List Tok) : List UInt8 := layAll W (parse (ts.map erase))
/-- Format, of a text. -/
noncomputable def fmtRes (l : List UInt8) (W : Nat) : List UInt8 × Int × Int :=
  if (scanRes l).2.1 = 0 then (fmtT W (scanRes l).1, 0, 0) else ([], (scanRes l).2.1, (scanRes l).2.2)
theorem toksL_nil {es : List El} (h : toksL es = []) : es = [] := by
  cases es with
  | nil => rfl
  | cons e es =>
    obtain ⟨r, hr⟩ := e.toks_first
    rw [toksL, hr] at h; simp at h
/-- What is laid out, as blanks and tokens. -/
theorem fmt_pieces {l : List UInt8} {ts : List Tok} {pl : Int} (h : scanRes l = (ts, 0, pl)) (W : Nat) :
    (ts = [] ∧ fmtT W ts = []) ∨ ∃ ps, ts ≠ [] ∧ fmtT W ts = render ps [10] ∧ ps = layL W (parse (ts.map erase)) 0 0 0 false 0 ∧ ps.map (·.2) = ts.map erase ∧ Okp none ps [10] ∧ (∀ q ∈ ps, GapForm q.1) ∧ ∃ t r, ps = ([], t) :: r := by
  have hs := parse_spec (els_of_scan h)
  have hg := scan_good h
  have hb := scan_behC h
  unfold fmtT layAll
  generalize parse (ts.map erase) = es at hs ⊢
  cases es with
  | nil =>
    left
    have : ts.map erase = [] := hs.1.symm
    exact ⟨List.map_eq_nil_iff.1 this, rfl⟩
  | cons e es =>
    right
    refine ⟨_, ?_, rfl, rfl, by rw [layL_toks, hs.1], ?_, layL_form W _ _ _ _ _ _, ?_⟩
    · intro hn
      subst hn
      have := toksL_nil hs.1
      cases this
    · have := layL_ok W (e :: es) hs.2 (fun t ht => by
        rw [hs.1] at ht
        obtain ⟨u, hu, rfl⟩ := List.mem_map.1 ht
        exact ⟨erase_good (hg u hu).1, erase_shape (hg u hu).2.1⟩) 0 none 0 0 false 0 [] [10] (by rw [hs.1]; exact hb.map _ (fun t => ⟨rfl, rfl⟩) rfl) (fun _ => .inl rfl) (fun h => absurd rfl h) (fun _ h => by cases h) (fun h => by cases h)
        ⟨fun c hc => by simp at hc; subst hc; rfl, fun q _ _ => .inr ⟨[], rfl⟩⟩
      rw [List.append_nil] at this
      exact this
    · rw [layL]
      obtain ⟨r, hr⟩ := El.lay_head W e 0 (gapOf e 0 0 false) (tailOf es 0)
      rw [hr]
      exact ⟨_, _, rfl⟩
theorem erase_erase (ts : List Tok) : (ts.map erase).map key = ts.map key := by rw [List.map_map]; rfl
/-- Nothing but blanks is changed. -/
theorem same_plain {l : List UInt8} {ts : List Tok} {pl : Int} (h : scanRes l = (ts, 0, pl)) (W : Nat) (hl : (fmtT W ts).length ≤ 4096) :
    ∃ us, scanRes (fmtT W ts) = (us, 0, 0) ∧ us.map key = ts.map key := by
  rcases fmt_pieces h W with ⟨h1, h2⟩ | ⟨ps, _, h2, _, h3, h4, _, _⟩
  · rw [h2, h1]
    exact ⟨[], rfl, rfl⟩
  · rw [h2] at hl ⊢
    refine ⟨_, scan_render h ps [10] (by rw [h3, erase_erase]) h4 hl, ?_⟩
    rw [placed_key, h3, erase_erase]
theorem fmtT_key {ts us : List Tok} (h : ts.map key = us.map key) (W : Nat) : fmtT W ts = fmtT W us := by
  unfold fmtT; rw [map_erase_key h]
/-- Laid out again it is as if at once. -/
theorem again_plain {l : List UInt8} {ts : List Tok} {pl : Int} (h : scanRes l = (ts, 0, pl)) (W V : Nat) (hl : (fmtT W ts).length ≤ 4096) : fmtRes (fmtT W ts) V = (fmtT V ts, 0, 0) := by
  obtain ⟨us, h1, h2⟩ := same_plain h W hl
  unfold fmtRes
  rw [h1]
  simp only [if_true]
  rw [fmtT_key h2]
end Sc
end Go.Proofs.YtoieklacpkahbaaDoor
