/- Plain laws: what is laid out is read as the same tokens, is laid out again the same, and is neat. No program here. -/
import Derived.Test.YtigdfhcmhidhbaaDoorPlainY
namespace Go.Proofs.YtigdfhcmhidhbaaDoor
open Go.RowKit
namespace Sc
mutual
theorem El.flat_toks : ∀ (e : El) (g : List UInt8), (e.flat g).map (·.2) = e.toks
  | .leaf _, _ => rfl
  | .pre t e, g => by rw [El.flat, El.toks, List.map_cons, El.flat_toks e []]
  | .lst o es c, g => by rw [El.flat, El.toks, List.map_cons, List.map_append, flatL_toks es []]; rfl
theorem flatL_toks : ∀ (es : List El) (g : List UInt8), (flatL es g).map (·.2) = toksL es
  | [], _ => rfl
  | e :: es, g => by rw [flatL, toksL, List.map_append, El.flat_toks e g, flatL_toks es [32]]
end
mutual
theorem El.lay_toks (W : Nat) : ∀ (e : El) (c0 : Nat) (g : List UInt8) (tail : Nat), (e.lay W c0 g tail).map (·.2) = e.toks
  | .leaf _, _, _, _ => rfl
  | .pre t e, c0, g, tail => by
    rw [El.lay]
    split
    · exact El.flat_toks _ g
    · rw [El.toks, List.map_cons, El.lay_toks W e]
  | .lst o es c, c0, g, tail => by
    rw [El.lay]
    split
    · exact El.flat_toks _ g
    · rw [El.toks, List.map_cons, List.map_append, layL_toks W es]; rfl
theorem layL_toks (W : Nat) : ∀ (es : List El) (n cur c : Nat) (beside : Bool) (last : Nat), (layL W es n cur c beside last).map (·.2) = toksL es
  | [], _, _, _, _, _ => rfl
  | e :: es, n, cur, c, beside, last => by rw [layL, toksL, List.map_append, El.lay_toks W e, layL_toks W es]
end
/-- What stands ahead of a token that is laid out. -/
def GapForm (g : List UInt8) : Prop := g = [] ∨ g = [32] ∨ ∃ n, g = nl n
mutual
theorem El.flat_form : ∀ (e : El) (g : List UInt8), GapForm g → ∀ q ∈ e.flat g, GapForm q.1
  | .leaf t, g, h, q, hq => by rw [El.flat] at hq; simp at hq; subst hq; exact h
  | .pre t e, g, h, q, hq => by
    rw [El.flat] at hq
    rcases List.mem_cons.1 hq with rfl | hq
    · exact h
    · exact El.flat_form e [] (.inl rfl) q hq
  | .lst o es c, g, h, q, hq => by
    rw [El.flat] at hq
    rcases List.mem_cons.1 hq with rfl | hq
    · exact h
    · rcases List.mem_append.1 hq with hq | hq
      · exact flatL_form es [] (.inl rfl) q hq
      · simp at hq; subst hq; exact .inl rfl
theorem flatL_form : ∀ (es : List El) (g : List UInt8), GapForm g → ∀ q ∈ flatL es g, GapForm q.1
  | [], _, _, q, hq => by rw [flatL] at hq; simp at hq
  | e :: es, g, h, q, hq => by
    rw [flatL] at hq
    rcases List.mem_append.1 hq with hq | hq
    · exact El.flat_form e g h q hq
    · exact flatL_form es [32] (.inr (.inl rfl)) q hq
end
theorem gapOf_form (e : El) (n c : Nat) (beside : Bool) : GapForm (gapOf e n c beside) := by
  unfold gapOf
  split
  · exact .inl rfl
  · split
    · exact .inr (.inl rfl)
    · exact .inr (.inr ⟨c, rfl⟩)
theorem closeGap_form (es : List El) (c : Nat) : GapForm (closeGap es c) := by
  unfold closeGap
  split
  · split
    · exact .inr (.inr ⟨c, rfl⟩)
    · exact .inl rfl
  · exact .inl rfl
mutual
theorem El.lay_form (W : Nat) : ∀ (e : El) (c0 : Nat) (g : List UInt8) (tail : Nat), GapForm g → ∀ q ∈ e.lay W c0 g tail, GapForm q.1
  | .leaf t, _, g, _, h, q, hq => by rw [El.lay] at hq; simp at hq; subst hq; exact h
  | .pre t e, c0, g, tail, h, q, hq => by
    rw [El.lay] at hq
    split at hq
    · exact El.flat_form _ g h q hq
    · rcases List.mem_cons.1 hq with rfl | hq
      · exact h
      · exact El.lay_form W e _ [] tail (.inl rfl) q hq
  | .lst o es c, c0, g, tail, h, q, hq => by
    rw [El.lay] at hq
    split at hq
    · exact El.flat_form _ g h q hq
    · rcases List.mem_cons.1 hq with rfl | hq
      · exact h
      · rcases List.mem_append.1 hq with hq | hq
        · exact layL_form W es _ _ _ _ _ q hq
        · simp at hq; subst hq; exact closeGap_form _ _
theorem layL_form (W : Nat) : ∀ (es : List El) (n cur c : Nat) (beside : Bool) (last : Nat), ∀ q ∈ layL W es n cur c beside last, GapForm q.1
  | [], _, _, _, _, _, q, hq => by rw [layL] at hq; simp at hq
  | e :: es, n, cur, c, beside, last, q, hq => by
    rw [layL] at hq
    rcases List.mem_append.1 hq with hq | hq
    · exact El.lay_form W e _ _ _ (gapOf_form _ _ _ _) q hq
    · exact layL_form W es _ _ _ _ _ q hq
end
theorem El.flat_head : ∀ (e : El) (g : List UInt8), ∃ r, e.flat g = (g, e.first) :: r
  | .leaf _, _ => ⟨[], rfl⟩
  | .pre _ _, _ => ⟨_, rfl⟩
  | .lst _ _ _, _ => ⟨_, rfl⟩
theorem El.lay_head (W : Nat) (e : El) (c0 : Nat) (g : List UInt8) (tail : Nat) : ∃ r, e.lay W c0 g tail = (g, e.first) :: r := by
  cases e with
  | leaf t => exact ⟨[], rfl⟩
  | pre t e =>
    rw [El.lay]
    split
    · exact El.flat_head _ g
    · exact ⟨_, rfl⟩
  | lst o es c =>
    rw [El.lay]
    split
    · exact El.flat_head _ g
    · exact ⟨_, rfl⟩
theorem erase_good {t : Tok} (h : Good t) : Good (erase t) := ⟨h.no10, h.head, h.close, h.self, h.beh⟩
theorem erase_shape {t : Tok} (h : Shape t) : Shape (erase t) := h
/-- The elements of tokens (of the first ones found). -/
noncomputable def parse (ts : List Tok) : List El := by
  classical
  exact if h : ∃ es, toksL es = ts ∧ WFL es then Classical.choose h else []
theorem parse_spec {ts : List Tok} (h : ∃ es, toksL es = ts ∧ WFL es) : toksL (parse ts) = ts ∧ WFL (parse ts) := by
  unfold parse
  rw [dif_pos h]
  exact Classical.choose_spec h
/-- Format, of tokens. -/
noncomputable def fmtT (W : Nat) (ts : List Tok) : List UInt8 := layAll W (parse (ts.map erase))
/-- Format, of a text. -/
noncomputable def fmtRes (l : List UInt8) (W : Nat) : List UInt8 × Int × Int :=
  if (scanRes l).2.1 = 0 then (fmtT W (scanRes l).1, 0, 0) else ([], (scanRes l).2.1, (scanRes l).2.2)
theorem toksL_nil {es : List El} (h : toksL es = []) : es = [] := by
  cases es with
  | nil => rfl
  | cons e es =>
    obtain ⟨r, hr⟩ := e.toks_first
    rw [toksL, hr] at h; simp at h
/-- What is laid out, as blanks and tokens. -/
theorem fmt_pieces {l : List UInt8} {ts : List Tok} {pl : Int} (h : scanRes l = (ts, 0, pl)) (W : Nat) :
    (ts = [] ∧ fmtT W ts = []) ∨ ∃ ps, ts ≠ [] ∧ fmtT W ts = render ps [10] ∧ ps = layL W (parse (ts.map erase)) 0 0 0 false 0 ∧ ps.map (·.2) = ts.map erase ∧ Okp none ps [10] ∧ (∀ q ∈ ps, GapForm q.1) ∧ ∃ t r, ps = ([], t) :: r := by
  have hs := parse_spec (els_of_scan h)
  have hg := scan_good h
  have hb := scan_behC h
  unfold fmtT layAll
  generalize parse (ts.map erase) = es at hs ⊢
  cases es with
  | nil =>
    left
    have : ts.map erase = [] := hs.1.symm
    exact ⟨List.map_eq_nil_iff.1 this, rfl⟩
  | cons e es =>
    right
    refine ⟨_, ?_, rfl, rfl, by rw [layL_toks, hs.1], ?_, layL_form W _ _ _ _ _ _, ?_⟩
    · intro hn
      subst hn
      have := toksL_nil hs.1
      cases this
    · have := layL_ok W (e :: es) hs.2 (fun t ht => by
        rw [hs.1] at ht
        obtain ⟨u, hu, rfl⟩ := List.mem_map.1 ht
        exact ⟨erase_good (hg u hu).1, erase_shape (hg u hu).2.1⟩) 0 none 0 0 false 0 [] [10] (by rw [hs.1]; exact hb.map _ (fun t => ⟨rfl, rfl⟩) rfl) (fun _ => .inl rfl) (fun h => absurd rfl h) (fun _ h => by cases h) (fun h => by cases h)
        ⟨fun c hc => by simp at hc; subst hc; rfl, fun q _ _ => .inr ⟨[], rfl⟩⟩
      rw [List.append_nil] at this
      exact this
    · rw [layL]
      obtain ⟨r, hr⟩ := El.lay_head W e 0 (gapOf e 0 0 false) (tailOf es 0)
      rw [hr]
      exact ⟨_, _, rfl⟩
theorem erase_erase (ts : List Tok) : (ts.map erase).map key = ts.map key := by rw [List.map_map]; rfl
/-- Nothing but blanks is changed. -/
theorem same_plain {l : List UInt8} {ts : List Tok} {pl : Int} (h : scanRes l = (ts, 0, pl)) (W : Nat) (hl : (fmtT W ts).length ≤ 4096) :
    ∃ us, scanRes (fmtT W ts) = (us, 0, 0) ∧ us.map key = ts.map key := by
  rcases fmt_pieces h W with ⟨h1, h2⟩ | ⟨ps, _, h2, _, h3, h4, _, _⟩
  · rw [h2, h1]
    exact ⟨[], rfl, rfl⟩
  · rw [h2] at hl ⊢
    refine ⟨_, scan_render h ps [10] (by rw [h3, erase_erase]) h4 hl, ?_⟩
    rw [placed_key, h3, erase_erase]
theorem fmtT_key {ts us : List Tok} (h : ts.map key = us.map key) (W : Nat) : fmtT W ts = fmtT W us := by
  unfold fmtT; rw [map_erase_key h]
/-- Laid out again it is as if at once. -/
theorem again_plain {l : List UInt8} {ts : List Tok} {pl : Int} (h : scanRes l = (ts, 0, pl)) (W V : Nat) (hl : (fmtT W ts).length ≤ 4096) : fmtRes (fmtT W ts) V = (fmtT V ts, 0, 0) := by
  obtain ⟨us, h1, h2⟩ := same_plain h W hl
  unfold fmtRes
  rw [h1]
  simp only [if_true]
  rw [fmtT_key h2]
end Sc
end Go.Proofs.YtigdfhcmhidhbaaDoor
