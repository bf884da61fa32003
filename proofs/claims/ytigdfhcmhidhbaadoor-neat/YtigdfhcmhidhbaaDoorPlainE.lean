/- Plain laws: tokens cover the text. No program here. -/
import Derived.Test.YtigdfhcmhidhbaaDoorPlainD
namespace Go.Proofs.YtigdfhcmhidhbaaDoor
open Go.RowKit
namespace Sc
/-- A space, a tab, a newline. -/
def bl3 (c : UInt8) : Bool := c == 32 || c == 9 || c == 10
theorem bl3_of {c : UInt8} (h : isBl c = true) : bl3 c = true := by
  unfold isBl at h; unfold bl3; rw [h]; rfl
/-- From a up to b there is nothing but blanks. -/
def Bls (l : List UInt8) (a b : Nat) : Prop := a ≤ b ∧ b ≤ l.length ∧ ∀ j (h : j < l.length), a ≤ j → j < b → bl3 l[j] = true
theorem Bls.refl {l : List UInt8} {a : Nat} (h : a ≤ l.length) : Bls l a a := ⟨Nat.le_refl _, h, fun j _ h1 h2 => by omega⟩
theorem Bls.trans {l : List UInt8} {a b c : Nat} (h : Bls l a b) (k : Bls l b c) : Bls l a c :=
  ⟨Nat.le_trans h.1 k.1, k.2.1, fun j hj h1 h2 => if hb : j < b then h.2.2 j hj h1 hb else k.2.2 j hj (by omega) h2⟩
/-- The tokens, one behind the other, from a up to b: nothing but blanks between. -/
def Cov (l : List UInt8) : List Tok → Nat → Nat → Prop
  | [], a, b => Bls l a b
  | t :: ts, a, b => ∃ p : Nat, t.place = p ∧ Bls l a p ∧ 0 < t.text.length ∧ p + t.text.length ≤ l.length ∧ t.text = (l.drop p).take t.text.length ∧ Cov l ts (p + t.text.length) b
theorem Cov.append {l : List UInt8} {xs ys : List Tok} {a b c : Nat} (h : Cov l xs a b) (k : Cov l ys b c) : Cov l (xs ++ ys) a c := by
  induction xs generalizing a with
  | nil =>
    cases ys with
    | nil => exact Bls.trans h k
    | cons t ts =>
      obtain ⟨p, h1, h2, h3⟩ := k
      exact ⟨p, h1, Bls.trans h h2, h3⟩
  | cons t xs ih =>
    obtain ⟨p, h1, h2, h3, h4, h5, h6⟩ := h
    exact ⟨p, h1, h2, h3, h4, h5, ih h6⟩
theorem Cov.le {l : List UInt8} {ts : List Tok} {a b : Nat} (h : Cov l ts a b) : a ≤ b ∧ b ≤ l.length := by
  induction ts generalizing a with
  | nil => exact ⟨h.1, h.2.1⟩
  | cons t ts ih =>
    obtain ⟨p, _, h2, _, _, _, h6⟩ := h
    have := ih h6
    have := h2.1
    omega
theorem skipB_bls (l : List UInt8) (a : Nat) (h : a ≤ l.length) : Bls l a (skipB l a) := by
  have hle := skipB_le l a h
  refine ⟨hle.1, hle.2, fun j hj h1 h2 => ?_⟩
  apply bl3_of
  unfold skipB blN at h2
  have hm : l[j] ∈ (l.drop a).takeWhile isBl := by
    have hjl : j - a < ((l.drop a).takeWhile isBl).length := by omega
    have e : ((l.drop a).takeWhile isBl)[j - a] = l[j] := by
      have hp : (l.drop a).takeWhile isBl <+: l.drop a := List.takeWhile_prefix _
      rw [hp.getElem hjl, List.getElem_drop]
      congr 1
      omega
    rw [← e]; exact List.getElem_mem hjl
  exact List.all_eq_true.1 List.all_takeWhile _ hm
theorem lineGo_cov (l : List UInt8) : ∀ (f a : Nat) (acc : List Tok), l.length < f + a → Cov l acc 0 a → (∀ h : a < l.length, isBl l[a] = false) → (lineGo l f a acc).2.1 = 0 → Cov l (lineGo l f a acc).1 0 l.length := by
  intro f
  induction f with
  | zero => intro a acc hf h1 _ _; have := h1.le; omega
  | succ f ih =>
    intro a acc hf h1 h4 he0
    have hle := h1.le
    by_cases ha : l.length ≤ a
    · rw [lineGo_end _ _ _ _ ha]
      have : a = l.length := by omega
      rw [← this]; exact h1
    · by_cases he : (readTok (l.drop a)).2.2 = 0
      · rw [lineGo_on _ _ _ _ (by omega) he] at he0 ⊢
        have hal : a < l.length := by omega
        have hok : 1 ≤ (readTok (l.drop a)).2.1 ∧ a + (readTok (l.drop a)).2.1 ≤ l.length := by
          have hd := List.drop_eq_getElem_cons hal
          have := readTok_ok l[a] (l.drop (a + 1)) (h4 hal)
          rw [← hd] at this
          have t := this he
          rw [List.length_drop] at t
          omega
        have hsk := skipB_le l (a + (readTok (l.drop a)).2.1) hok.2
        refine ih _ _ (by omega) (h1.append ?_) (fun h => skipB_at _ _ h) he0
        have hlen : ((l.drop a).take (readTok (l.drop a)).2.1).length = (readTok (l.drop a)).2.1 := by rw [List.length_take, List.length_drop]; omega
        refine ⟨a, rfl, Bls.refl (by omega), ?_, ?_, ?_, ?_⟩
        · show 0 < ((l.drop a).take _).length; omega
        · show a + ((l.drop a).take _).length ≤ _; omega
        · show (l.drop a).take _ = (l.drop a).take ((l.drop a).take _).length; rw [hlen]
        · show Bls l (a + ((l.drop a).take _).length) _; rw [hlen]; exact skipB_bls l _ hok.2
      · rw [lineGo_bad _ _ _ _ (by omega) (by omega) he] at he0
        exact absurd he0 he
theorem lineRes_cov (l : List UInt8) (h : (lineRes l).2.1 = 0) : Cov l (lineRes l).1 0 l.length :=
  lineGo_cov l _ _ _ (by omega) (skipB_bls l 0 (by simp)) (fun h => skipB_at _ _ h) h

/-- A piece of a text. -/
theorem Bls.shift {pre l suf : List UInt8} {a b : Nat} (h : Bls l a b) : Bls (pre ++ l ++ suf) (pre.length + a) (pre.length + b) := by
  refine ⟨by have := h.1; omega, by have := h.2.1; simp; omega, fun j hj h1 h2 => ?_⟩
  have h3 := h.2.1
  have := h.2.2 (j - pre.length) (by omega) (by omega) (by omega)
  rw [List.getElem_append_left (by simp; omega), List.getElem_append_right (by omega)]
  exact this
theorem Cov.shift {pre l suf : List UInt8} {ts : List Tok} {a b : Nat} (h : Cov l ts a b) : Cov (pre ++ l ++ suf) (ts.map (Sc.shift pre.length)) (pre.length + a) (pre.length + b) := by
  induction ts generalizing a with
  | nil => exact Bls.shift h
  | cons t ts ih =>
    obtain ⟨p, h1, h2, h3, h4, h5, h6⟩ := h
    refine ⟨pre.length + p, ?_, Bls.shift h2, h3, ?_, ?_, ?_⟩
    · show t.place + pre.length = _; rw [h1]; omega
    · show pre.length + p + t.text.length ≤ _; simp; omega
    · show t.text = ((pre ++ l ++ suf).drop (pre.length + p)).take t.text.length
      rw [List.append_assoc, ← List.drop_drop, List.drop_left, List.drop_append_of_le_length (by omega), List.take_append_of_le_length (by rw [List.length_drop]; omega)]
      exact h5
    · have := ih h6
      show Cov _ _ (pre.length + p + t.text.length) _
      rw [Nat.add_assoc]; exact this
theorem lns_form : ∀ (m l : List UInt8) (ls : List (List UInt8)), lns m = l :: ls → (ls = [] ∧ m = l) ∨ ∃ rest, m = l ++ 10 :: rest ∧ lns rest = ls := by
  intro m
  induction m with
  | nil => intro l ls h; simp [lns] at h; exact .inl ⟨h.2, h.1.symm⟩
  | cons c t ih =>
    intro l ls h
    rw [lns] at h
    by_cases hc : c = 10
    · rw [if_pos hc] at h
      injection h with h1 h2
      subst h1 hc
      exact .inr ⟨t, rfl, h2⟩
    · rw [if_neg hc] at h
      cases hl : lns t with
      | nil => exact absurd hl (lns_ne t)
      | cons x xs =>
        rw [hl] at h
        injection h with h1 h2
        subst h1 h2
        rcases ih x xs hl with ⟨h3, h4⟩ | ⟨rest, h3, h4⟩
        · exact .inl ⟨h3, by rw [h4]⟩
        · exact .inr ⟨rest, by rw [h3]; rfl, h4⟩
theorem toksGo_cov : ∀ (ls : List (List UInt8)) (pre m : List UInt8) (acc : List Tok), lns m = ls → Cov (pre ++ m) acc 0 pre.length → (toksGo ls pre.length acc).2.1 = 0 → Cov (pre ++ m) (toksGo ls pre.length acc).1 0 (pre ++ m).length := by
  intro ls
  induction ls with
  | nil => intro pre m acc h; exact absurd h (lns_ne m)
  | cons l ls ih =>
    intro pre m acc h hc he
    rw [toksGo] at he ⊢
    by_cases h0 : (lineRes l).2.1 = 0
    · rw [if_pos h0] at he ⊢
      have hl := lineRes_cov l h0
      rcases lns_form m l ls h with ⟨h1, h2⟩ | ⟨rest, h1, h2⟩
      · subst h1 h2
        have := Cov.shift (pre := pre) (suf := []) hl
        rw [List.append_nil, Nat.add_zero] at this
        rw [List.length_append]
        exact hc.append this
      · have hs := Cov.shift (pre := pre) (suf := 10 :: rest) hl
        rw [List.append_assoc, ← h1, Nat.add_zero] at hs
        have hb : Bls (pre ++ m) (pre.length + l.length) (pre.length + l.length + 1) := by
          refine ⟨by omega, by rw [h1]; simp; omega, fun j hj h3 h4 => ?_⟩
          have e : j = pre.length + l.length := by omega
          subst e
          have : (pre ++ m)[pre.length + l.length]? = some 10 := by
            rw [h1, List.getElem?_append_right (by omega), Nat.add_sub_cancel_left, List.getElem?_append_right (by omega), Nat.sub_self]; rfl
          rw [List.getElem?_eq_getElem hj] at this
          injection this with this
          rw [this]; rfl
        have hfull := (hc.append hs).append (ys := []) hb
        rw [List.append_nil] at hfull
        have e1 : pre ++ m = (pre ++ l ++ [10]) ++ rest := by rw [h1]; simp
        have e2 : pre.length + l.length + 1 = (pre ++ l ++ [10]).length := by simp; omega
        rw [e2] at hfull he ⊢
        rw [e1] at hfull ⊢
        exact ih (pre ++ l ++ [10]) rest _ h2 hfull he
    · rw [if_neg h0] at he
      exact absurd he h0
theorem toksRes_cov (l : List UInt8) (h : (toksRes l).2.1 = 0) : Cov l (toksRes l).1 0 l.length :=
  toksGo_cov (lns l) [] l [] rfl (Bls.refl (by simp)) h
/-- What covers a text has no empty token, and no more tokens than bytes. -/
theorem Cov.pos {l : List UInt8} {ts : List Tok} {a b : Nat} (h : Cov l ts a b) : (∀ t ∈ ts, 0 < t.text.length) ∧ ts.length + a ≤ b := by
  induction ts generalizing a with
  | nil => exact ⟨fun t ht => by simp at ht, by have := h.1; simpa using this⟩
  | cons t ts ih =>
    obtain ⟨p, h1, h2, h3, h4, h5, h6⟩ := h
    have i := ih h6
    refine ⟨fun x hx => ?_, ?_⟩
    · rcases List.mem_cons.1 hx with rfl | hx
      · exact h3
      · exact i.1 x hx
    · have := h2.1
      have := i.2
      simp only [List.length_cons]; omega

/-- Scan. -/
def scanRes (l : List UInt8) : List Tok × Int × Int :=
  if 4096 < l.length then ([], 1, 0)
  else if 0 ≤ strangeAt l then ([], 2, strangeAt l)
  else if (toksRes l).2.1 ≠ 0 then ([], (toksRes l).2.1, (toksRes l).2.2)
  else if (listsRes (toksRes l).1).1 ≠ 0 then ([], (listsRes (toksRes l).1).1, (listsRes (toksRes l).1).2)
  else ((toksRes l).1, 0, 0)

theorem strangeI_neg : ∀ (l : List UInt8) (i : Nat), strangeI l i < 0 → ∀ c ∈ l, strange c = false := by
  intro l
  induction l with
  | nil => intro i _ c hc; simp at hc
  | cons x l ih =>
    intro i h c hc
    rw [strangeI] at h
    cases hx : strange x with
    | true => rw [hx] at h; simp at h; omega
    | false =>
      rw [hx] at h
      rcases List.mem_cons.1 hc with rfl | hc
      · exact hx
      · exact ih (i + 1) (by simpa using h) c hc
theorem strange_ascii {c : UInt8} (h : strange c = false) : c.toNat < 128 := by
  unfold strange at h
  by_cases h9 : c = 9
  · subst h9; decide
  by_cases h10 : c = 10
  · subst h10; decide
  simp [h9, h10] at h
  omega
theorem ascii_of_strange (l : List UInt8) (h : strangeAt l < 0) : Ascii l := fun j b hb =>
  strange_ascii (strangeI_neg l 0 (by simpa [strangeAt] using h) b (List.mem_of_getElem? hb))
theorem strangeAt_le (l : List UInt8) : -1 ≤ strangeAt l ∧ strangeAt l ≤ l.length := by
  have key : ∀ (l : List UInt8) (i : Nat), -1 ≤ strangeI l i ∧ strangeI l i ≤ i + l.length := by
    intro l
    induction l with
    | nil => intro i; simp [strangeI]
    | cons c l ih =>
      intro i
      rw [strangeI]
      have := ih (i + 1)
      simp only [List.length_cons]
      split <;> omega
  have := key l 0
  simpa [strangeAt] using this
end Sc
end Go.Proofs.YtigdfhcmhidhbaaDoor
