/- Plain functions: elements, and how they are laid out. No program here. -/
import Derived.Test.YtigdfhcmhidhbaaDoorPlainW
namespace Go.Proofs.YtigdfhcmhidhbaaDoor
open Go.RowKit
namespace Sc
/-- An element: an atom or a comment; a prefix and an element; a list. -/
inductive El
  | leaf (t : Tok)
  | pre (t : Tok) (e : El)
  | lst (o : Tok) (es : List El) (c : Tok)
namespace El
def first : El → Tok
  | leaf t => t
  | pre t _ => t
  | lst o _ _ => o
def last : El → Tok
  | leaf t => t
  | pre _ e => e.last
  | lst _ _ c => c
end El
mutual
def El.toks : El → List Tok
  | .leaf t => [t]
  | .pre t e => t :: e.toks
  | .lst o es c => o :: (toksL es ++ [c])
def toksL : List El → List Tok
  | [] => []
  | e :: es => e.toks ++ toksL es
end
mutual
/-- An element as it may be. -/
def El.WF : El → Prop
  | .leaf t => t.kind = 1 ∨ t.kind = 5
  | .pre t e => t.kind = 4 ∧ leadsB t e.first = true ∧ e.WF
  | .lst o es c => o.kind = 2 ∧ c.kind = 3 ∧ WFL es
def WFL : List El → Prop
  | [] => True
  | e :: es => e.WF ∧ WFL es
end
theorem El.toks_first : ∀ e : El, ∃ r, e.toks = e.first :: r
  | .leaf _ => ⟨[], rfl⟩
  | .pre _ e => ⟨e.toks, rfl⟩
  | .lst _ _ _ => ⟨_, rfl⟩
theorem El.toks_last : ∀ e : El, ∃ r, e.toks = r ++ [e.last]
  | .leaf _ => ⟨[], rfl⟩
  | .pre t e => by
    obtain ⟨r, h⟩ := e.toks_last
    exact ⟨t :: r, by rw [El.toks, h]; rfl⟩
  | .lst o es _ => ⟨o :: toksL es, rfl⟩
def closes : List (Tok × List El) → List Tok
  | [] => []
  | (c, es) :: r => c :: (toksL es ++ closes r)
/-- Tokens that are lists are elements. -/
theorem lists_els : ∀ (ts : List Tok) (st : List Int), (∀ t ∈ ts, t.kind = 1 ∨ t.kind = 2 ∨ t.kind = 3 ∨ t.kind = 4 ∨ t.kind = 5) → (listsGo ts st).1 = 0 →
    ∃ es r, ts = toksL es ++ closes r ∧ WFL es ∧ r.length = st.length ∧ (∀ q ∈ r, q.1.kind = 3 ∧ WFL q.2) := by
  intro ts
  induction ts with
  | nil =>
    intro st _ h
    rw [listsGo] at h
    cases hs : st.getLast? with
    | some p => rw [hs] at h; simp at h
    | none =>
      have : st = [] := List.getLast?_eq_none_iff.1 hs
      subst this
      exact ⟨[], [], rfl, trivial, rfl, fun q hq => by simp at hq⟩
  | cons t ts ih =>
    intro st hk h
    have hkt := hk t (List.mem_cons_self ..)
    have hks := fun u hu => hk u (List.mem_cons_of_mem _ hu)
    rw [listsGo] at h
    by_cases h2 : t.kind = 2
    · rw [if_pos h2] at h
      split at h
      · simp at h
      · obtain ⟨es, r, e1, e2, e3, e4⟩ := ih _ hks h
        cases r with
        | nil => simp at e3
        | cons q r =>
          obtain ⟨c, es1⟩ := q
          have hq := e4 _ (List.mem_cons_self ..)
          refine ⟨.lst t es c :: es1, r, ?_, ⟨⟨h2, hq.1, e2⟩, hq.2⟩, by simpa using e3, fun q hq => e4 q (List.mem_cons_of_mem _ hq)⟩
          rw [e1, closes, toksL, El.toks]; simp
    · rw [if_neg h2] at h
      by_cases h3 : t.kind = 3
      · rw [if_pos h3] at h
        split at h
        · simp at h
        · obtain ⟨es, r, e1, e2, e3, e4⟩ := ih _ hks h
          refine ⟨[], (t, es) :: r, ?_, trivial, ?_, ?_⟩
          · rw [e1, closes]; simp [toksL]
          · rename_i hne
            rw [List.length_cons, e3, List.length_dropLast]; omega
          · intro q hq
            rcases List.mem_cons.1 hq with rfl | hq
            · exact ⟨h3, e2⟩
            · exact e4 q hq
      · rw [if_neg h3] at h
        by_cases h4 : t.kind = 4
        · rw [if_pos h4] at h
          split at h
          · rename_i hl
            obtain ⟨es, r, e1, e2, e3, e4⟩ := ih _ hks h
            cases es with
            | nil =>
              exfalso
              cases r with
              | nil => rw [e1] at hl; simp [toksL, closes, leads] at hl
              | cons q r =>
                obtain ⟨c, es1⟩ := q
                have hq := e4 _ (List.mem_cons_self ..)
                rw [e1, toksL, closes, List.nil_append, leads, leadsB, if_pos hq.1] at hl
                cases hl
            | cons e es =>
              refine ⟨.pre t e :: es, r, ?_, ⟨⟨h4, ?_, e2.1⟩, e2.2⟩, e3, e4⟩
              · rw [e1]; simp [toksL, El.toks]
              · obtain ⟨x, hx⟩ := e.toks_first
                rw [e1, toksL, hx] at hl
                exact hl
          · simp at h
        · rw [if_neg h4] at h
          obtain ⟨es, r, e1, e2, e3, e4⟩ := ih _ hks h
          refine ⟨.leaf t :: es, r, ?_, ⟨?_, e2⟩, e3, e4⟩
          · rw [e1]; rfl
          · show t.kind = 1 ∨ t.kind = 5; omega
/-- A token without its place. -/
def erase (t : Tok) : Tok := { t with place := 0 }
theorem erase_key {t u : Tok} (h : key t = key u) : erase t = erase u := by
  unfold erase; rw [key_kind h, key_text h, key_behind h]
theorem key_erase (t : Tok) : key (erase t) = key t := rfl
theorem map_erase_key {ts us : List Tok} (h : ts.map key = us.map key) : ts.map erase = us.map erase := by
  induction ts generalizing us with
  | nil => cases us with
    | nil => rfl
    | cons u us => simp at h
  | cons t ts ih => cases us with
    | nil => simp at h
    | cons u us =>
      simp only [List.map_cons, List.cons.injEq] at h ⊢
      exact ⟨erase_key h.1, ih h.2⟩
theorem els_of_scan {l : List UInt8} {ts : List Tok} {pl : Int} (h : scanRes l = (ts, 0, pl)) : ∃ es, toksL es = ts.map erase ∧ WFL es := by
  have hg := scan_good h
  obtain ⟨_, _, _, h4, _⟩ := scan_ok h
  have h5 : (listsGo (ts.map erase) []).1 = 0 := by
    rw [← h4]; unfold listsRes
    refine listsGo_key _ _ _ _ ?_ rfl
    rw [List.map_map]; rfl
  obtain ⟨es, r, e1, e2, e3, _⟩ := lists_els _ _ (fun t ht => by
    obtain ⟨u, hu, rfl⟩ := List.mem_map.1 ht
    exact (hg u hu).2.1.2.2.2) h5
  have : r = [] := List.eq_nil_of_length_eq_zero e3
  subst this
  exact ⟨es, by rw [e1]; simp [closes], e2⟩

/-- Where the last line of a text ends. -/
def colB (c : Nat) (l : List UInt8) : Nat := l.foldl (fun c b => if b = 10 then 0 else c + 1) c
mutual
/-- The flat text, behind the blanks g. -/
def El.flat : El → List UInt8 → List (List UInt8 × Tok)
  | .leaf t, g => [(g, t)]
  | .pre t e, g => (g, t) :: e.flat []
  | .lst o es c, g => (g, o) :: (flatL es [] ++ [([], c)])
def flatL : List El → List UInt8 → List (List UInt8 × Tok)
  | [], _ => []
  | e :: es, g => e.flat g ++ flatL es [32]
end
def El.flen (e : El) : Nat := (render (e.flat []) []).length
def El.com (e : El) : Bool := e.toks.any (fun t => t.kind == 5)
def fits (W : Nat) (e : El) (col tail : Nat) : Bool := !e.com && decide (col + e.flen + tail ≤ W)
def El.isB : El → Bool
  | .leaf t => (t.kind == 5) && t.behind
  | _ => false
def El.isC : El → Bool
  | .leaf t => t.kind == 5
  | _ => false
def tailOf : List El → Nat → Nat
  | [], last => last
  | e :: _, _ => if e.isB then e.first.text.length + 1 else 0
def forms : List (List UInt8) := [[100, 101, 102, 105, 110, 101], [108, 97, 109, 98, 100, 97], [108, 101, 116], [108, 101, 116, 42], [108, 101, 116, 114, 101, 99], [119, 104, 101, 110], [117, 110, 108, 101, 115, 115]]
def blocks : List (List UInt8) := [[98, 101, 103, 105, 110], [99, 111, 110, 100], [101, 108, 115, 101], [100, 111]]
/-- By how much a list's lines are further in than it; does its second element stand beside the first one? -/
def style (o : Tok) : List El → Nat × Bool
  | .leaf f :: es =>
    if f.kind = 1 then
      if o.text = [40] ∧ f.text ∈ forms then (2, match es with | [] => true | e :: _ => !e.isC)
      else if o.text = [40] ∧ f.text ∈ blocks then (2, false)
      else match es with
        | [] => (o.text.length, false)
        | e :: _ => if f.text.take 2 ≠ [35, 124] ∧ e.isC = false then (o.text.length + f.text.length + 1, true) else (o.text.length, false)
    else (o.text.length, false)
  | _ => (o.text.length, false)
def nl (c : Nat) : List UInt8 := 10 :: List.replicate c 32
def gapOf (e : El) (n c : Nat) (beside : Bool) : List UInt8 := if n = 0 then [] else if e.isB || (n == 1 && beside) then [32] else nl c
def closeGap (es : List El) (c : Nat) : List UInt8 := match es.getLast? with | some e => if e.isC then nl c else [] | none => []
mutual
/-- How an element is laid out: the column ahead of the blanks g, these, the tail. -/
def El.lay (W : Nat) : El → Nat → List UInt8 → Nat → List (List UInt8 × Tok)
  | .leaf t, _, g, _ => [(g, t)]
  | .pre t e, c0, g, tail => if fits W (.pre t e) (colB c0 g) tail then (El.pre t e).flat g else (g, t) :: e.lay W (colB c0 g + t.text.length) [] tail
  | .lst o es c, c0, g, tail => if fits W (.lst o es c) (colB c0 g) tail then (El.lst o es c).flat g else
      (g, o) :: (layL W es 0 (colB c0 g + o.text.length) (colB c0 g + (style o es).1) (style o es).2 (tail + 1) ++ [(closeGap es (colB c0 g + (style o es).1), c)])
def layL (W : Nat) : List El → Nat → Nat → Nat → Bool → Nat → List (List UInt8 × Tok)
  | [], _, _, _, _, _ => []
  | e :: es, n, cur, c, beside, last =>
    e.lay W cur (gapOf e n c beside) (tailOf es last) ++ layL W es (n + 1) (colB cur (render (e.lay W cur (gapOf e n c beside) (tailOf es last)) [])) c beside last
end
/-- A whole text laid out. -/
def layAll (W : Nat) (es : List El) : List UInt8 := if es.isEmpty then [] else render (layL W es 0 0 0 false 0) [10]
end Sc
end Go.Proofs.YtigdfhcmhidhbaaDoor
