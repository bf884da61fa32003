/- Plain laws: a token is read the same, whatever follows that may follow. No program here. -/
import Derived.Test.YtigdfhcmhidhbaaDoorPlainT
namespace Go.Proofs.YtigdfhcmhidhbaaDoor
open Go.RowKit
namespace Sc
theorem blkGo_cut : ∀ (l : List UInt8) (i : Nat) (o : Int) (r : List UInt8), 1 ≤ o → blkGo l i o ≠ 0 → blkGo (l.take (blkGo l i o - i) ++ r) i o = blkGo l i o
  | [], i, o, r, _, h => by simp [blkGo] at h
  | [_], i, o, r, _, h => by simp [blkGo] at h
  | a :: b :: t, i, o, r, ho, h => by
    have p1 := blkGo_pos t (i + 2) (o + 1)
    have p2 := blkGo_pos t (i + 2) (o - 1)
    have p3 := blkGo_pos (b :: t) (i + 1) o
    by_cases h1 : a = 35 ∧ b = 124
    · have h2 : ¬ o + 1 = 0 := by omega
      have e : blkGo (a :: b :: t) i o = blkGo t (i + 2) (o + 1) := by rw [blkGo, if_pos h1, if_neg h2]
      rw [e] at h ⊢
      have ih := blkGo_cut t (i + 2) (o + 1) r (by omega) h
      rw [show blkGo t (i + 2) (o + 1) - i = (blkGo t (i + 2) (o + 1) - (i + 2)) + 2 by omega]
      show blkGo (a :: b :: (t.take _ ++ r)) i o = _
      rw [blkGo, if_pos h1, if_neg h2, ih]
    · by_cases h2 : a = 124 ∧ b = 35
      · by_cases h3 : o - 1 = 0
        · have e : blkGo (a :: b :: t) i o = i + 2 := by rw [blkGo, if_neg h1, if_pos h2, if_pos h3]
          rw [e, show i + 2 - i = 2 by omega]
          show blkGo (a :: b :: r) i o = _
          rw [blkGo, if_neg h1, if_pos h2, if_pos h3]
        · have e : blkGo (a :: b :: t) i o = blkGo t (i + 2) (o - 1) := by rw [blkGo, if_neg h1, if_pos h2, if_neg h3]
          rw [e] at h ⊢
          have ih := blkGo_cut t (i + 2) (o - 1) r (by omega) h
          rw [show blkGo t (i + 2) (o - 1) - i = (blkGo t (i + 2) (o - 1) - (i + 2)) + 2 by omega]
          show blkGo (a :: b :: (t.take _ ++ r)) i o = _
          rw [blkGo, if_neg h1, if_pos h2, if_neg h3, ih]
      · have h3 : ¬ o = 0 := by omega
        have e : blkGo (a :: b :: t) i o = blkGo (b :: t) (i + 1) o := by rw [blkGo, if_neg h1, if_neg h2, if_neg h3]
        rw [e] at h ⊢
        have ih := blkGo_cut (b :: t) (i + 1) o r ho h
        have e1 : blkGo (b :: t) (i + 1) o - (i + 1) = (blkGo (b :: t) (i + 1) o - (i + 2)) + 1 := by omega
        have e2 : blkGo (b :: t) (i + 1) o - i = (blkGo (b :: t) (i + 1) o - (i + 2)) + 1 + 1 := by omega
        rw [e1] at ih
        rw [e2]
        simp only [List.take_succ_cons, List.cons_append] at ih ⊢
        rw [blkGo, if_neg h1, if_neg h2, if_neg h3, ih]
theorem strGo_cut : ∀ (l : List UInt8) (i : Nat) (r : List UInt8), strGo l i ≠ 0 → strGo (l.take (strGo l i - i) ++ r) i = strGo l i
  | [], i, r, h => by simp [strGo] at h
  | [c], i, r, h => by
    have hc : ¬ (c == 92) = true := by
      intro hc; simp only [strGo] at h; rw [if_pos hc] at h; exact h rfl
    by_cases h2 : (c == 34) = true
    · have e : strGo [c] i = i + 1 := by rw [strGo, if_neg hc, if_pos h2]
      rw [e, show i + 1 - i = 1 by omega]
      show strGo (c :: r) i = _
      cases r with
      | nil => exact e
      | cons d r => rw [strGo, if_neg hc, if_pos h2]
    · rw [strGo, if_neg hc, if_neg h2] at h; exact absurd rfl h
  | c :: d :: t, i, r, h => by
    have p1 := strGo_pos t (i + 2)
    have p2 := strGo_pos (d :: t) (i + 1)
    by_cases h1 : (c == 92) = true
    · have e : strGo (c :: d :: t) i = strGo t (i + 2) := by rw [strGo, if_pos h1]
      rw [e] at h ⊢
      have ih := strGo_cut t (i + 2) r h
      rw [show strGo t (i + 2) - i = (strGo t (i + 2) - (i + 2)) + 2 by omega]
      show strGo (c :: d :: (t.take _ ++ r)) i = _
      rw [strGo, if_pos h1, ih]
    · by_cases h2 : (c == 34) = true
      · have e : strGo (c :: d :: t) i = i + 1 := by rw [strGo, if_neg h1, if_pos h2]
        rw [e, show i + 1 - i = 1 by omega]
        show strGo (c :: r) i = _
        cases r with
        | nil => rw [strGo, if_neg h1, if_pos h2]
        | cons d r => rw [strGo, if_neg h1, if_pos h2]
      · have e : strGo (c :: d :: t) i = strGo (d :: t) (i + 1) := by rw [strGo, if_neg h1, if_neg h2]
        rw [e] at h ⊢
        have ih := strGo_cut (d :: t) (i + 1) r h
        have e1 : strGo (d :: t) (i + 1) - (i + 1) = (strGo (d :: t) (i + 1) - (i + 2)) + 1 := by omega
        have e2 : strGo (d :: t) (i + 1) - i = (strGo (d :: t) (i + 1) - (i + 2)) + 1 + 1 := by omega
        rw [e1] at ih
        rw [e2]
        simp only [List.take_succ_cons, List.cons_append] at ih ⊢
        rw [strGo, if_neg h1, if_neg h2, ih]
theorem dw_idem (p : UInt8 → Bool) : ∀ l : List UInt8, (l.dropWhile p).dropWhile p = l.dropWhile p := by
  intro l
  induction l with
  | nil => rfl
  | cons c l ih =>
    rw [List.dropWhile_cons]
    split
    · exact ih
    · rw [List.dropWhile_cons, if_neg (by assumption)]
/-- What may follow a token on its line. -/
def Follows (k : Int) (x r : List UInt8) : Prop := (k = 5 → r = []) ∧ (k = 1 → r = [] ∨ r.headD 0 = 32 ∨ r.headD 0 = 9 ∨ r.headD 0 = 41) ∧ (x = [44] → r.headD 0 ≠ 64)
theorem trim_idem (l : List UInt8) : trimLen (l.take (trimLen l)) = trimLen l := by
  have h := trimRightS_eq l
  have h1 : Lib.trimRightS (Lib.trimRightS l [32, 9]) [32, 9] = Lib.trimRightS l [32, 9] := by
    unfold Lib.trimRightS
    rw [List.reverse_reverse, dw_idem]
  unfold trimLen at h ⊢
  rw [← h.1, h1]
theorem rt_two (a b : UInt8) (r : List UInt8) (h : [a, b] = [35, 40] ∨ [a, b] = [44, 64] ∨ [a, b] = [35, 59]) : readTok ([a, b] ++ r) = (if b = 40 then 2 else 4, 2, 0) := by
  rcases h with h | h | h <;> (simp only [List.cons.injEq, and_true] at h; obtain ⟨rfl, rfl⟩ := h; rfl)
theorem rt_one (a : UInt8) (r : List UInt8) (k : Int) (h : (a = 40 ∧ k = 2) ∨ (a = 41 ∧ k = 3) ∨ (a = 39 ∧ k = 4) ∨ (a = 96 ∧ k = 4) ∨ (a = 44 ∧ k = 4 ∧ r.headD 0 ≠ 64)) : readTok ([a] ++ r) = (k, 1, 0) := by
  cases r with
  | nil => rcases h with h | h | h | h | h <;> (obtain ⟨rfl, h⟩ := h; first | (subst h; rfl) | (obtain ⟨rfl, _⟩ := h; rfl))
  | cons d r =>
    rcases h with h | h | h | h | h
    · obtain ⟨rfl, rfl⟩ := h; rfl
    · obtain ⟨rfl, rfl⟩ := h; rfl
    · obtain ⟨rfl, rfl⟩ := h; rfl
    · obtain ⟨rfl, rfl⟩ := h; rfl
    · obtain ⟨rfl, rfl, hd⟩ := h
      have hd : d ≠ 64 := by simpa using hd
      simp [readTok, h0, hd]
theorem enE_0 {n : Nat} {m : Int} (hm : m ≠ 0) (h : enE n m = 0) : n ≠ 0 := by
  intro hn; rw [enE, if_pos hn] at h; exact hm h
theorem h0_append (x r : List UInt8) (n : Int) (h : 0 < x.length) : h0 (x ++ r) n = h0 x n := by
  cases x with
  | nil => simp at h
  | cons c x => rfl
theorem take2_append (x r : List UInt8) (h : 2 ≤ x.length) : (x ++ r).take 2 = x.take 2 := by
  rw [List.take_append_of_le_length h]
/-- What is read as a token is read so, whatever may follow. -/
theorem readTok_self (c : UInt8) (t : List UInt8) (hb : isBl c = false) : (readTok (c :: t)).2.2 = 0 → ∀ r, Follows (readTok (c :: t)).1 ((c :: t).take (readTok (c :: t)).2.1) r →
    readTok ((c :: t).take (readTok (c :: t)).2.1 ++ r) = ((readTok (c :: t)).1, (readTok (c :: t)).2.1, 0) := by
  refine readTok_P (fun q => q.2.2 = 0 → ∀ r, Follows q.1 ((c :: t).take q.2.1) r → readTok ((c :: t).take q.2.1 ++ r) = (q.1, q.2.1, 0)) (c :: t) ?_ ?_ ?_ ?_ ?_ ?_ ?_ ?_ ?_ ?_ ?_ ?_
  · intro h _ r _; have e := beq_iff_eq.1 h
    show readTok ((c :: t).take 2 ++ r) = _
    rw [e]; exact rt_two 35 40 r (.inl rfl)
  · intro h _ r _; have e := beq_iff_eq.1 h
    show readTok ((c :: t).take 2 ++ r) = _
    rw [e]; exact rt_two 44 64 r (.inr (.inl rfl))
  · intro h _ r _; have e := beq_iff_eq.1 h
    show readTok ((c :: t).take 2 ++ r) = _
    rw [e]; exact rt_two 35 59 r (.inr (.inr rfl))
  · intro h h1 r _
    have e := beq_iff_eq.1 h
    have hn : blkLen (c :: t) ≠ 0 := enE_0 (by decide) h1
    obtain ⟨u, rfl, rfl⟩ : ∃ u, c = 35 ∧ t = 124 :: u := by
      cases t with
      | nil => simp at e
      | cons d u => simp at e; exact ⟨u, e.1, by rw [e.2]⟩
    have e1 : ∀ v : List UInt8, blkLen (35 :: 124 :: v) = blkGo v 2 1 := fun v => by
      unfold blkLen; rw [List.drop_zero, blkGo, if_pos ⟨rfl, rfl⟩, if_neg (by decide)]; rfl
    simp only [e1] at hn ⊢
    have hp := blkGo_pos u 2 1
    have hc := blkGo_cut u 2 1 r (by decide) hn
    have e2 : (35 :: 124 :: u).take (blkGo u 2 1) ++ r = 35 :: 124 :: (u.take (blkGo u 2 1 - 2) ++ r) := by
      rw [show blkGo u 2 1 = (blkGo u 2 1 - 2) + 2 by omega]; rfl
    rw [e2]
    unfold readTok
    rw [if_neg (by simp), if_neg (by simp), if_neg (by simp), if_pos (by simp), e1, hc]
    simp only [enE, if_neg hn]
  · intro h _ r _; have hc := (h0_iff c t 40).1 h; subst hc
    exact rt_one 40 r 2 (by simp)
  · intro h _ r _; have hc := (h0_iff c t 41).1 h; subst hc
    exact rt_one 41 r 3 (by simp)
  · intro h _ r _; have hc := (h0_iff c t 39).1 h; subst hc
    exact rt_one 39 r 4 (by simp)
  · intro h _ r _; have hc := (h0_iff c t 96).1 h; subst hc
    exact rt_one 96 r 4 (by simp)
  · intro h _ _ r hf; have hc := (h0_iff c t 44).1 h; subst hc
    exact rt_one 44 r 4 (.inr (.inr (.inr (.inr ⟨rfl, rfl, hf.2.2 rfl⟩))))
  · intro h _ r hf
    have hc := (h0_iff c t 59).1 h; subst hc
    have hr := hf.1 rfl; subst hr
    have hid := trim_idem (59 :: t)
    have htr := trimRightS_eq (59 :: t)
    have hpos : 1 ≤ trimLen (59 :: t) := by
      by_cases h0 : trimLen (59 :: t) = 0
      · have := htr.2.2 59 (by rw [h0]; simp)
        rw [hb] at this; cases this
      · omega
    simp only [List.append_nil]
    have e2 : (59 :: t).take (trimLen (59 :: t)) = 59 :: t.take (trimLen (59 :: t) - 1) := by
      rw [show trimLen (59 :: t) = (trimLen (59 :: t) - 1) + 1 by omega]; rfl
    have e3 : readTok (59 :: t.take (trimLen (59 :: t) - 1)) = (5, trimLen (59 :: t.take (trimLen (59 :: t) - 1)), 0) := by
      cases t.take (trimLen (59 :: t) - 1) <;> rfl
    rw [e2, e3, ← e2, hid]
  · intro h h1 r hf
    have hc := (h0_iff c t 34).1 h; subst hc
    have hn : strLen (34 :: t) ≠ 0 := enE_0 (by decide) h1
    have e1 : ∀ v : List UInt8, strLen (34 :: v) = strGo v 1 := fun v => rfl
    simp only [e1] at hn ⊢
    have hp := strGo_pos t 1
    have hcut := strGo_cut t 1 r hn
    have e2 : (34 :: t).take (strGo t 1) ++ r = 34 :: (t.take (strGo t 1 - 1) ++ r) := by
      rw [show strGo t 1 = (strGo t 1 - 1) + 1 by omega]; rfl
    rw [e2]
    have e3 : ∀ v, readTok (34 :: v) = (enK (strGo v 1), strGo v 1, enE (strGo v 1) 3) := fun v => by cases v <;> rfl
    rw [e3, hcut]
    simp only [enE, if_neg hn]
  · intro n1 n3 n4 n5 n6 n7 n8 n9 n10 n11 _ r hf
    have hat := atomGo_of hb n5 n6 n7 n8 n9 n10 n11
    have hf := hf.2.1 rfl
    have htk : (c :: t).take (atomLen (c :: t)) = (c :: t).takeWhile atomGo := by
      unfold atomLen
      exact (List.prefix_iff_eq_take.1 (List.takeWhile_prefix _)).symm
    show readTok ((c :: t).take (atomLen (c :: t)) ++ r) = (1, atomLen (c :: t), 0)
    have hl : atomLen ((c :: t).take (atomLen (c :: t)) ++ r) = atomLen (c :: t) := by
      rw [htk]
      unfold atomLen
      rw [List.takeWhile_append_of_pos (fun a ha => List.all_eq_true.1 List.all_takeWhile a ha)]
      have : r.takeWhile atomGo = [] := by
        cases r with
        | nil => rfl
        | cons d r =>
          have hd : atomGo d = false := by
            rcases hf with hf | hf | hf | hf
            · cases hf
            · simp at hf; subst hf; rfl
            · simp at hf; subst hf; rfl
            · simp at hf; subst hf; rfl
          rw [List.takeWhile_cons, hd]; rfl
      rw [this, List.append_nil]
    have hlen : 1 ≤ atomLen (c :: t) := by
      unfold atomLen
      rw [List.takeWhile_cons, if_pos hat]; simp
    have hle := atomLen_le (c :: t)
    have e2 : (c :: t).take (atomLen (c :: t)) ++ r = c :: (t.take (atomLen (c :: t) - 1) ++ r) := by
      rw [show atomLen (c :: t) = (atomLen (c :: t) - 1) + 1 by omega]; rfl
    have hbad : ∀ d, ¬ (c :: t).take 2 == [35, d] → d ≠ 32 → d ≠ 9 → d ≠ 41 → ¬ ((c :: t).take (atomLen (c :: t)) ++ r).take 2 == [35, d] := by
      intro d hd a1 a2 a3 hx
      by_cases h2 : 2 ≤ atomLen (c :: t)
      · rw [take2_append _ _ (by rw [List.length_take]; omega), List.take_take, Nat.min_eq_left h2] at hx
        exact hd hx
      · rw [e2, show atomLen (c :: t) - 1 = 0 by omega] at hx
        have hx := beq_iff_eq.1 hx
        cases r with
        | nil => simp at hx
        | cons x r =>
          simp at hx hf
          rw [hx.2] at hf
          rcases hf with hf | hf | hf
          · exact a1 hf
          · exact a2 hf
          · exact a3 hf
    have b1 := hbad 40 n1 (by decide) (by decide) (by decide)
    have b3 := hbad 59 n3 (by decide) (by decide) (by decide)
    have b4 := hbad 124 n4 (by decide) (by decide) (by decide)
    have hh : ∀ n, h0 ((c :: t).take (atomLen (c :: t)) ++ r) n = h0 (c :: t) n := by intro n; rw [e2]; rfl
    have b2 : ¬ ((c :: t).take (atomLen (c :: t)) ++ r).take 2 == [44, 64] := by
      intro hx
      rw [e2] at hx
      exact n9 ((h0_iff c t 44).2 (take2_head hx))
    unfold readTok
    rw [if_neg b1, if_neg b2, if_neg b3, if_neg b4]
    simp only [hh]
    rw [if_neg n5, if_neg n6, if_neg n7, if_neg n8, if_neg n9, if_neg n10, if_neg n11, hl]
end Sc
end Go.Proofs.YtigdfhcmhidhbaaDoor
