/- Plain laws: a token is read the same, whatever follows that may follow. No program here. -/
/- Plain laws: tokens with other blanks between them are read as the same tokens. No program here. -/
/- Plain laws: a whole text with other blanks. No program here. -/
import Derived.Test.YtoieklacpkahbaaDoorPlainT
namespace Go.Proofs.YtoieklacpkahbaaDoor
open Go.RowKit
namespace Sc
theorem blkGo_cut : ∀ (l : List UInt8) (i : Nat) (o : Int) (r : List UInt8), 1 ≤ o → blkGo l i o ≠ 0 → blkGo (l.take (blkGo l i o - i) ++ r) i o = blkGo l i o
  | [], i, o, r, _, h => by simp [blkGo] at h
  | [_], i, o, r, _, h => by simp [blkGo] at h
  | a :: b :: t, i, o, r, ho, h => by
    have p1 := blkGo_pos t (i + 2) (o + 1)
    have p2 := blkGo_pos t (i + 2) (o - 1)
    have p3 := blkGo_pos (b :: t) (i + 1) o
    by_cases h1 : a = 35 ∧ b = 124
    · have h2 : ¬ o + 1 = 0 := by omega
      have e : blkGo (a :: b :: t) i o = blkGo t (i + 2) (o + 1) := by rw [blkGo, if_pos h1, if_neg h2]
      rw [e] at h ⊢
      have ih := blkGo_cut t (i + 2) (o + 1) r (by omega) h
      rw [show blkGo t (i + 2) (o + 1) - i = (blkGo t (i + 2) (o + 1) - (i + 2)) + 2 by omega]
      show blkGo (a :: b :: (t.take _ ++ r)) i o = _
      rw [blkGo, if_pos h1, if_neg h2, ih]
    · by_cases h2 : a = 124 ∧ b = 35
      · by_cases h3 : o - 1 = 0
        · have e : blkGo (a :: b :: t) i o = i + 2 := by rw [blkGo, if_neg h1, if_pos h2, if_pos h3]
          rw [e, show i + 2 - i = 2 by omega]
          show blkGo (a :: b :: r) i o = _
          rw [blkGo, if_neg h1, if_pos h2, if_pos h3]
        · have e : blkGo (a :: b :: t) i o = blkGo t (i + 2) (o - 1) := by rw [blkGo, if_neg h1, if_pos h2, if_neg h3]
          rw [e] at h ⊢
          have ih := blkGo_cut t (i + 2) (o - 1) r (by omega) h
          rw [show blkGo t (i + 2) (o - 1) - i = (blkGo t (i + 2) (o - 1) - (i + 2)) + 2 by omega]
          show blkGo (a :: b :: (t.take _ ++ r)) i o = _
          rw [blkGo, if_neg h1, if_pos h2, if_neg h3, ih]
      · have h3 : ¬ o = 0 := by omega
        have e : blkGo (a :: b :: t) i o = blkGo (b :: t) (i + 1) o := by rw [blkGo, if_neg h1, if_neg h2, if_neg h3]
        rw [e] at h ⊢
        have ih := blkGo_cut (b :: t) (i + 1) o r ho h
        have e1 : blkGo (b :: t) (i + 1) o - (i + 1) = (blkGo (b :: t) (i + 1) o - (i + 2)) + 1 := by omega
        have e2 : blkGo (b :: t) (i + 1) o - i = (blkGo (b :: t) (i + 1) o - (i + 2)) + 1 + 1 := by omega
        rw [e1] at ih
        rw [e2]
        simp only [List.take_succ_cons, List.cons_append] at ih ⊢
        rw [blkGo, if_neg h1, if_neg h2, if_neg h3, ih]
theorem strGo_cut : ∀ (l : List UInt8) (i : Nat) (r : List UInt8), strGo l i ≠ 0 → strGo (l.take (strGo l i - i) ++ r) i = strGo l i
  | [], i, r, h => by simp [strGo] at h
  | [c], i, r, h => by
    have hc : ¬ (c == 92) = true := by
      intro hc; simp only [strGo] at h; rw [if_pos hc] at h; exact h rfl
    by_cases h2 : (c == 34) = true
    · have e : strGo [c] i = i + 1 := by rw [strGo, if_neg hc, if_pos h2]
      rw [e, show i + 1 - i = 1 by omega]
      show strGo (c :: r) i = _
      cases r with
      | nil => exact e
      | cons d r => rw [strGo, if_neg hc, if_pos h2]
    · rw [strGo, if_neg hc, if_neg h2] at h; exact absurd rfl h
  | c :: d :: t, i, r, h => by
    have p1 := strGo_pos t (i + 2)
    have p2 := strGo_pos (d :: t) (i + 1)
    by_cases h1 : (c == 92) = true
    · have e : strGo (c :: d :: t) i = strGo t (i + 2) := by rw [strGo, if_pos h1]
      rw [e] at h ⊢
      have ih := strGo_cut t (i + 2) r h
      rw [show strGo t (i + 2) - i = (strGo t (i + 2) - (i + 2)) + 2 by omega]
      show strGo (c :: d :: (t.take _ ++ r)) i = _
      rw [strGo, if_pos h1, ih]
    · by_cases h2 : (c == 34) = true
      · have e : strGo (c :: d :: t) i = i + 1 := by rw [strGo, if_neg h1, if_pos h2]
        rw [e, show i + 1 - i = 1 by omega]
        show strGo (c :: r) i = _
        cases r with
        | nil => rw [strGo, if_neg h1, if_pos h2]
        | cons d r => rw [strGo, if_neg h1, if_pos h2]
      · have e : strGo (c :: d :: t) i = strGo (d :: t) (i + 1) := by rw [strGo, if_neg h1, if_neg h2]
        rw [e] at h ⊢
        have ih := strGo_cut (d :: t) (i + 1) r h
        have e1 : strGo (d :: t) (i + 1) - (i + 1) = (strGo (d :: t) (i + 1) - (i + 2)) + 1 := by omega
        have e2 : strGo (d :: t) (i + 1) - i = (strGo (d :: t) (i + 1) - (i + 2)) + 1 + 1 := by omega
        rw [e1] at ih
        rw [e2]
        simp only [List.take_succ_cons, List.cons_append] at ih ⊢
        rw [strGo, if_neg h1, if_neg h2, ih]
theorem dw_idem (p : UInt8 → Bool) : ∀ l : List UInt8, (l.dropWhile p).dropWhile p = l.dropWhile p := by
  intro l
  induction l with
  | nil => rfl
  | cons c l ih =>
    rw [List.dropWhile_cons]
    split
    · exact ih
    · rw [List.dropWhile_cons, if_neg (by assumption)]
/-- What may follow a token on its line. -/
def Follows (k : Int) (x r : List UInt8) : Prop := (k = 5 → r = []) ∧ (k = 1 → r = [] ∨ r.headD 0 = 32 ∨ r.headD 0 = 9 ∨ r.headD 0 = 41) ∧ (x = [44] → r.headD 0 ≠ 64)
theorem trim_idem (l : List UInt8) : trimLen (l.take (trimLen l)) = trimLen l := by
  have h := trimRightS_eq l
  have h1 : Lib.trimRightS (Lib.trimRightS l [32, 9]) [32, 9] = Lib.trimRightS l [32, 9] := by
    unfold Lib.trimRightS
    rw [List.reverse_reverse, dw_idem]
  unfold trimLen at h ⊢
  rw [← h.1, h1]
theorem rt_two (a b : UInt8) (r : List UInt8) (h : [a, b] = [35, 40] ∨ [a, b] = [44, 64] ∨ [a, b] = [35, 59]) : readTok ([a, b] ++ r) = (if b = 40 then 2 else 4, 2, 0) := by
  rcases h with h | h | h <;> (simp only [List.cons.injEq, and_true] at h; obtain ⟨rfl, rfl⟩ := h; rfl)
theorem rt_one (a : UInt8) (r : List UInt8) (k : Int) (h : (a = 40 ∧ k = 2) ∨ (a = 41 ∧ k = 3) ∨ (a = 39 ∧ k = 4) ∨ (a = 96 ∧ k = 4) ∨ (a = 44 ∧ k = 4 ∧ r.headD 0 ≠ 64)) : readTok ([a] ++ r) = (k, 1, 0) := by
  cases r with
  | nil => rcases h with h | h | h | h | h <;> (obtain ⟨rfl, h⟩ := h; first | (subst h; rfl) | (obtain ⟨rfl, _⟩ := h; rfl))
  | cons d r =>
    rcases h with h | h | h | h | h
    · obtain ⟨rfl, rfl⟩ := h; rfl
    · obtain ⟨rfl, rfl⟩ := h; rfl
    · obtain ⟨rfl, rfl⟩ := h; rfl
    · obtain ⟨rfl, rfl⟩ := h; rfl
    · obtain ⟨rfl, rfl, hd⟩ := h
      have hd : d ≠ 64 := by simpa using hd
      simp [readTok, h0, hd]
theorem enE_0 {n : Nat} {m : Int} (hm : m ≠ 0) (h : enE n m = 0) : n ≠ 0 := by
  intro hn; rw [enE, if_pos hn] at h; exact hm h
theorem h0_append (x r : List UInt8) (n : Int) (h : 0 < x.length) : h0 (x ++ r) n = h0 x n := by
  cases x with
  | nil => simp at h
  | cons c x => rfl
theorem take2_append (x r : List UInt8) (h : 2 ≤ x.length) : (x ++ r).take 2 = x.take 2 := by
  rw [List.take_append_of_le_length h]
/-- What is read as a token is read so, whatever may follow. -/
theorem readTok_self (c : UInt8) (t : List UInt8) (hb : isBl c = false) : (readTok (c :: t)).2.2 = 0 → ∀ r, Follows (readTok (c :: t)).1 ((c :: t).take (readTok (c :: t)).2.1) r →
    readTok ((c :: t).take (readTok (c :: t)).2.1 ++ r) = ((readTok (c :: t)).1, (readTok (c :: t)).2.1, 0) := by
  refine readTok_P (fun q => q.2.2 = 0 → ∀ r, Follows q.1 ((c :: t).take q.2.1) r → readTok ((c :: t).take q.2.1 ++ r) = (q.1, q.2.1, 0)) (c :: t) ?_ ?_ ?_ ?_ ?_ ?_ ?_ ?_ ?_ ?_ ?_ ?_
  · intro h _ r _; have e := beq_iff_eq.1 h
    show readTok ((c :: t).take 2 ++ r) = _
    rw [e]; exact rt_two 35 40 r (.inl rfl)
  · intro h _ r _; have e := beq_iff_eq.1 h
    show readTok ((c :: t).take 2 ++ r) = _
    rw [e]; exact rt_two 44 64 r (.inr (.inl rfl))
  · intro h _ r _; have e := beq_iff_eq.1 h
    show readTok ((c :: t).take 2 ++ r) = _
    rw [e]; exact rt_two 35 59 r (.inr (.inr rfl))
  · intro h h1 r _
    have e := beq_iff_eq.1 h
    have hn : blkLen (c :: t) ≠ 0 := enE_0 (by decide) h1
    obtain ⟨u, rfl, rfl⟩ : ∃ u, c = 35 ∧ t = 124 :: u := by
      cases t with
      | nil => simp at e
      | cons d u => simp at e; exact ⟨u, e.1, by rw [e.2]⟩
    have e1 : ∀ v : List UInt8, blkLen (35 :: 124 :: v) = blkGo v 2 1 := fun v => by
      unfold blkLen; rw [List.drop_zero, blkGo, if_pos ⟨rfl, rfl⟩, if_neg (by decide)]; rfl
    simp only [e1] at hn ⊢
    have hp := blkGo_pos u 2 1
    have hc := blkGo_cut u 2 1 r (by decide) hn
    have e2 : (35 :: 124 :: u).take (blkGo u 2 1) ++ r = 35 :: 124 :: (u.take (blkGo u 2 1 - 2) ++ r) := by
      rw [show blkGo u 2 1 = (blkGo u 2 1 - 2) + 2 by omega]; rfl
    rw [e2]
    unfold readTok
    rw [if_neg (by simp), if_neg (by simp), if_neg (by simp), if_pos (by simp), e1, hc]
    simp only [enE, if_neg hn]
  · intro h _ r _; have hc := (h0_iff c t 40).1 h; subst hc
    exact rt_one 40 r 2 (by simp)
  · intro h _ r _; have hc := (h0_iff c t 41).1 h; subst hc
    exact rt_one 41 r 3 (by simp)
  · intro h _ r _; have hc := (h0_iff c t 39).1 h; subst hc
    exact rt_one 39 r 4 (by simp)
  · intro h _ r _; have hc := (h0_iff c t 96).1 h; subst hc
    exact rt_one 96 r 4 (by simp)
  · intro h _ _ r hf; have hc := (h0_iff c t 44).1 h; subst hc
    exact rt_one 44 r 4 (.inr (.inr (.inr (.inr ⟨rfl, rfl, hf.2.2 rfl⟩))))
  · intro h _ r hf
    have hc := (h0_iff c t 59).1 h; subst hc
    have hr := hf.1 rfl; subst hr
    have hid := trim_idem (59 :: t)
    have htr := trimRightS_eq (59 :: t)
    have hpos : 1 ≤ trimLen (59 :: t) := by
      by_cases h0 : trimLen (59 :: t) = 0
      · have := htr.2.2 59 (by rw [h0]; simp)
        rw [hb] at this; cases this
      · omega
    simp only [List.append_nil]
    have e2 : (59 :: t).take (trimLen (59 :: t)) = 59 :: t.take (trimLen (59 :: t) - 1) := by
      rw [show trimLen (59 :: t) = (trimLen (59 :: t) - 1) + 1 by omega]; rfl
    have e3 : readTok (59 :: t.take (trimLen (59 :: t) - 1)) = (5, trimLen (59 :: t.take (trimLen (59 :: t) - 1)), 0) := by
      cases t.take (trimLen (59 :: t) - 1) <;> rfl
    rw [e2, e3, ← e2, hid]
  · intro h h1 r hf
    have hc := (h0_iff c t 34).1 h; subst hc
    have hn : strLen (34 :: t) ≠ 0 := enE_0 (by decide) h1
    have e1 : ∀ v : List UInt8, strLen (34 :: v) = strGo v 1 := fun v => rfl
    simp only [e1] at hn ⊢
    have hp := strGo_pos t 1
    have hcut := strGo_cut t 1 r hn
    have e2 : (34 :: t).take (strGo t 1) ++ r = 34 :: (t.take (strGo t 1 - 1) ++ r) := by
      rw [show strGo t 1 = (strGo t 1 - 1) + 1 by omega]; rfl
    rw [e2]
    have e3 : ∀ v, readTok (34 :: v) = (enK (strGo v 1), strGo v 1, enE (strGo v 1) 3) := fun v => by cases v <;> rfl
    rw [e3, hcut]
    simp only [enE, if_neg hn]
  · intro n1 n3 n4 n5 n6 n7 n8 n9 n10 n11 _ r hf
    have hat := atomGo_of hb n5 n6 n7 n8 n9 n10 n11
    have hf := hf.2.1 rfl
    have htk : (c :: t).take (atomLen (c :: t)) = (c :: t).takeWhile atomGo := by
      unfold atomLen
      exact (List.prefix_iff_eq_take.1 (List.takeWhile_prefix _)).symm
    show readTok ((c :: t).take (atomLen (c :: t)) ++ r) = (1, atomLen (c :: t), 0)
    have hl : atomLen ((c :: t).take (atomLen (c :: t)) ++ r) = atomLen (c :: t) := by
      rw [htk]
      unfold atomLen
      rw [List.takeWhile_append_of_pos (fun a ha => List.all_eq_true.1 List.all_takeWhile a ha)]
      have : r.takeWhile atomGo = [] := by
        cases r with
        | nil => rfl
        | cons d r =>
          have hd : atomGo d = false := by
            rcases hf with hf | hf | hf | hf
            · cases hf
            · simp at hf; subst hf; rfl
            · simp at hf; subst hf; rfl
            · simp at hf; subst hf; rfl
          rw [List.takeWhile_cons, hd]; rfl
      rw [this, List.append_nil]
    have hlen : 1 ≤ atomLen (c :: t) := by
      unfold atomLen
      rw [List.takeWhile_cons, if_pos hat]; simp
    have hle := atomLen_le (c :: t)
    have e2 : (c :: t).take (atomLen (c :: t)) ++ r = c :: (t.take (atomLen (c :: t) - 1) ++ r) := by
      rw [show atomLen (c :: t) = (atomLen (c :: t) - 1) + 1 by omega]; rfl
    have hbad : ∀ d, ¬ (c :: t).take 2 == [35, d] → d ≠ 32 → d ≠ 9 → d ≠ 41 → ¬ ((c :: t).take (atomLen (c :: t)) ++ r).take 2 == [35, d] := by
      intro d hd a1 a2 a3 hx
      by_cases h2 : 2 ≤ atomLen (c :: t)
      · rw [take2_append _ _ (by rw [List.length_take]; omega), List.take_take, Nat.min_eq_left h2] at hx
        exact hd hx
      · rw [e2, show atomLen (c :: t) - 1 = 0 by omega] at hx
        have hx := beq_iff_eq.1 hx
        cases r with
        | nil => simp at hx
        | cons x r =>
          simp at hx hf
          rw [hx.2] at hf
          rcases hf with hf | hf | hf
          · exact a1 hf
          · exact a2 hf
          · exact a3 hf
    have b1 := hbad 40 n1 (by decide) (by decide) (by decide)
    have b3 := hbad 59 n3 (by decide) (by decide) (by decide)
    have b4 := hbad 124 n4 (by decide) (by decide) (by decide)
    have hh : ∀ n, h0 ((c :: t).take (atomLen (c :: t)) ++ r) n = h0 (c :: t) n := by intro n; rw [e2]; rfl
    have b2 : ¬ ((c :: t).take (atomLen (c :: t)) ++ r).take 2 == [44, 64] := by
      intro hx
      rw [e2] at hx
      exact n9 ((h0_iff c t 44).2 (take2_head hx))
    unfold readTok
    rw [if_neg b1, if_neg b2, if_neg b3, if_neg b4]
    simp only [hh]
    rw [if_neg n5, if_neg n6, if_neg n7, if_neg n8, if_neg n9, if_neg n10, if_neg n11, hl]
end Sc
end Go.Proofs.YtoieklacpkahbaaDoor
namespace Go.Proofs.YtoieklacpkahbaaDoor
open Go.RowKit
namespace Sc
/-- A token as it is read. -/
structure Good (t : Tok) : Prop where
  no10 : No10 t.text
  head : ∃ c x, t.text = c :: x ∧ bl3 c = false
  close : t.kind = 3 → t.text = [41]
  self : ∀ r, Follows t.kind t.text r → readTok (t.text ++ r) = (t.kind, t.text.length, 0)
  beh : t.kind ≠ 5 → t.behind = false
theorem readTok_3 (c : UInt8) (t : List UInt8) : (readTok (c :: t)).1 = 3 → (c :: t).take (readTok (c :: t)).2.1 = [41] := by
  refine readTok_P (fun r => r.1 = 3 → (c :: t).take r.2.1 = [41]) (c :: t) ?_ ?_ ?_ ?_ ?_ ?_ ?_ ?_ ?_ ?_ ?_ ?_
  · intro _ h; simp at h
  · intro _ h; simp at h
  · intro _ h; simp at h
  · intro _ h; simp only [enK] at h; split at h <;> simp at h
  · intro _ h; simp at h
  · intro h _; have hc := (h0_iff c t 41).1 h; subst hc; rfl
  · intro _ h; simp at h
  · intro _ h; simp at h
  · intro _ _ h; simp at h
  · intro _ h; simp at h
  · intro _ h; simp only [enK] at h; split at h <;> simp at h
  · intro _ _ _ _ _ _ _ _ _ _ h; simp at h
theorem bl3_no {c : UInt8} (h : isBl c = false) (h10 : c ≠ 10) : bl3 c = false := by
  unfold isBl at h; unfold bl3; rw [h]; simp [h10]
theorem lineGo_good (l : List UInt8) (hno : No10 l) : ∀ (f a : Nat) (acc : List Tok), (∀ t ∈ acc, Good t) → (∀ h : a < l.length, isBl l[a] = false) → ∀ t ∈ (lineGo l f a acc).1, Good t := by
  intro f
  induction f with
  | zero => intro a acc h _ t ht; exact h t ht
  | succ f ih =>
    intro a acc h h4 t ht
    by_cases ha : l.length ≤ a
    · rw [lineGo_end _ _ _ _ ha] at ht; exact h t ht
    · by_cases he : (readTok (l.drop a)).2.2 = 0
      · rw [lineGo_on _ _ _ _ (by omega) he] at ht
        have hal : a < l.length := by omega
        have hd := List.drop_eq_getElem_cons hal
        have hok := readTok_ok l[a] (l.drop (a + 1)) (h4 hal)
        have hse := readTok_self l[a] (l.drop (a + 1)) (h4 hal)
        have h3 := readTok_3 l[a] (l.drop (a + 1))
        rw [← hd] at hok hse h3
        have hok := hok he
        have hse := hse he
        have hlen : ((l.drop a).take (readTok (l.drop a)).2.1).length = (readTok (l.drop a)).2.1 := by rw [List.length_take]; omega
        refine ih _ _ ?_ (fun h => skipB_at _ _ h) t ht
        intro x hx
        rcases List.mem_append.1 hx with hx | hx
        · exact h x hx
        · simp at hx; subst hx
          refine ⟨fun c hc => hno c (List.mem_of_mem_drop (List.mem_of_mem_take hc)), ⟨l[a], (l.drop (a + 1)).take ((readTok (l.drop a)).2.1 - 1), ?_, bl3_no (h4 hal) (hno _ (List.getElem_mem hal))⟩, h3, fun r hr => ?_, fun hk => ?_⟩
          · show (l.drop a).take (readTok (l.drop a)).2.1 = _
            obtain ⟨n, hn⟩ : ∃ n, (readTok (l.drop a)).2.1 = n + 1 := ⟨(readTok (l.drop a)).2.1 - 1, by omega⟩
            rw [hn, hd]; rfl
          · have := hse r hr
            show readTok ((l.drop a).take (readTok (l.drop a)).2.1 ++ r) = (_, ((l.drop a).take (readTok (l.drop a)).2.1).length, 0)
            rw [hlen]; exact this
          · have hk : (readTok (l.drop a)).1 ≠ 5 := hk
            simp [hk]
      · rw [lineGo_bad _ _ _ _ (by omega) (by omega) he] at ht; simp at ht
theorem Good.shift {t : Tok} (h : Good t) (b : Nat) : Good (shift b t) := ⟨h.no10, h.head, h.close, h.self, h.beh⟩
theorem toksGo_good : ∀ (ls : List (List UInt8)) (b : Nat) (acc : List Tok), (∀ l ∈ ls, No10 l) → (∀ t ∈ acc, Good t) → ∀ t ∈ (toksGo ls b acc).1, Good t := by
  intro ls
  induction ls with
  | nil => intro b acc _ h t ht; exact h t ht
  | cons l ls ih =>
    intro b acc hno h t ht
    rw [toksGo] at ht
    split at ht
    · refine ih _ _ (fun x hx => hno x (List.mem_cons_of_mem _ hx)) ?_ t ht
      intro x hx
      rcases List.mem_append.1 hx with hx | hx
      · exact h x hx
      · obtain ⟨y, hy, rfl⟩ := List.mem_map.1 hx
        exact (lineGo_good l (hno l (List.mem_cons_self ..)) _ _ _ (fun t ht => by simp at ht) (fun h => skipB_at _ _ h) y hy).shift b
    · simp at ht
theorem toksRes_good (l : List UInt8) : ∀ t ∈ (toksRes l).1, Good t := toksGo_good _ _ _ (lns_no10 l) (fun t ht => by simp at ht)

/-- Blanks and tokens, one behind the other. -/
def render : List (List UInt8 × Tok) → List UInt8 → List UInt8
  | [], tl => tl
  | (g, t) :: ps, tl => g ++ (t.text ++ render ps tl)
def placed : List (List UInt8 × Tok) → Nat → List Tok
  | [], _ => []
  | (g, t) :: ps, i => { t with place := (i + g.length : Nat) } :: placed ps (i + g.length + t.text.length)
/-- May t stand right behind p? -/
def Glue (p t : Tok) : Prop := (p.kind = 2 ∨ p.kind = 4 ∨ (p.kind ≠ 5 ∧ t.kind = 3)) ∧ (p.text = [44] → t.text.headD 0 ≠ 64)
def endK : Option Tok → Bool
  | none => false
  | some t => (t.kind == 1) || (t.kind == 3)
def Okp : Option Tok → List (List UInt8 × Tok) → List UInt8 → Prop
  | p, [], tl => (∀ c ∈ tl, bl3 c = true) ∧ (∀ q, p = some q → q.kind = 5 → tl = [] ∨ ∃ r, tl = 10 :: r)
  | p, (g, t) :: ps, tl => (∀ c ∈ g, bl3 c = true) ∧ Good t ∧ (∀ q, p = some q → (g = [] → Glue q t) ∧ (q.kind = 5 → ∃ r, g = 10 :: r)) ∧ (t.kind = 5 → t.behind = (!(g.contains 10) && endK p)) ∧ Okp (some t) ps tl

theorem tw_cons10 (r : List UInt8) : (10 :: r).takeWhile inLn = [] := rfl
theorem tw_consNo {c : UInt8} (h : c ≠ 10) (r : List UInt8) : (c :: r).takeWhile inLn = c :: r.takeWhile inLn := by
  rw [List.takeWhile_cons, if_pos (by simp [inLn, h])]
theorem bl3_cases {c : UInt8} (h : bl3 c = true) : c = 10 ∨ c = 32 ∨ c = 9 := by
  unfold bl3 at h; simp at h; rcases h with (h | h) | h
  · exact .inr (.inl h)
  · exact .inr (.inr h)
  · exact .inl h
theorem follows_blank (k : Int) (x : List UInt8) (c : UInt8) (r : List UInt8) (hc : bl3 c = true) (h5 : k = 5 → c = 10) : Follows k x ((c :: r).takeWhile inLn) := by
  rcases bl3_cases hc with rfl | rfl | rfl
  · exact ⟨fun _ => rfl, fun _ => .inl rfl, fun _ => by rw [tw_cons10]; decide⟩
  · exact ⟨fun h => absurd (h5 h) (by decide), fun _ => .inr (.inl rfl), fun _ => by rw [tw_consNo (by decide)]; simp⟩
  · exact ⟨fun h => absurd (h5 h) (by decide), fun _ => .inr (.inr (.inl rfl)), fun _ => by rw [tw_consNo (by decide)]; simp⟩
theorem follows_of {t : Tok} {ps : List (List UInt8 × Tok)} {tl : List UInt8} (h : Okp (some t) ps tl) : Follows t.kind t.text ((render ps tl).takeWhile inLn) := by
  cases ps with
  | nil =>
    obtain ⟨h1, h2⟩ := h
    cases tl with
    | nil => exact ⟨fun _ => rfl, fun _ => .inl rfl, fun _ => by decide⟩
    | cons c r =>
      refine follows_blank _ _ c r (h1 c (List.mem_cons_self ..)) (fun h5 => ?_)
      rcases h2 t rfl h5 with h | ⟨r', h⟩
      · cases h
      · injection h
  | cons q ps =>
    obtain ⟨g, u⟩ := q
    obtain ⟨h1, hu, h3, _, _⟩ := h
    obtain ⟨h3, h5⟩ := h3 t rfl
    cases g with
    | nil =>
      obtain ⟨hg, h44⟩ := h3 rfl
      obtain ⟨c, x, hx, hb⟩ := hu.head
      have hc10 : c ≠ 10 := hu.no10 c (by rw [hx]; exact List.mem_cons_self ..)
      have e : (render (([], u) :: ps) tl).takeWhile inLn = c :: (x ++ render ps tl).takeWhile inLn := by
        rw [render, hx, List.nil_append, List.cons_append, tw_consNo hc10]
      rw [e]
      refine ⟨fun h => ?_, fun h => ?_, fun h => ?_⟩
      · obtain ⟨r, hr⟩ := h5 h; cases hr
      · have h3 : u.kind = 3 := by rcases hg with hg | hg | hg <;> omega
        have := hu.close h3
        rw [hx] at this
        injection this with this
        exact .inr (.inr (.inr this))
      · have := h44 h
        rw [hx] at this; exact this
    | cons c r =>
      refine follows_blank _ _ c _ (h1 c (List.mem_cons_self ..)) (fun h => ?_)
      obtain ⟨r', hr⟩ := h5 h
      injection hr

/-- Nothing but blanks ahead, read from behind. -/
def alBr : List UInt8 → Bool
  | [] => true
  | c :: r => if c = 10 then true else if bl3 c then alBr r else false
theorem alB_alBr (T : List UInt8) : ∀ i, i ≤ T.length → alB T i = alBr (T.take i).reverse := by
  intro i
  induction i with
  | zero => intro _; rfl
  | succ i ih =>
    intro hi
    have hi' : i < T.length := by omega
    rw [alB, List.take_succ_eq_append_getElem hi', List.reverse_append, ih (by omega)]
    have : T.getD i 0 = T[i] := by rw [List.getD_eq_getElem?_getD, List.getElem?_eq_getElem hi']; rfl
    rw [this]; rfl
theorem alBr_10 : ∀ (g r : List UInt8), (∀ c ∈ g, bl3 c = true) → 10 ∈ g → alBr (g ++ r) = true := by
  intro g
  induction g with
  | nil => intro r _ h; simp at h
  | cons c g ih =>
    intro r hb h
    rw [List.cons_append, alBr]
    by_cases hc : c = 10
    · rw [if_pos hc]
    · rw [if_neg hc, if_pos (hb c (List.mem_cons_self ..))]
      refine ih r (fun x hx => hb x (List.mem_cons_of_mem _ hx)) ?_
      rcases List.mem_cons.1 h with h | h
      · exact absurd h.symm hc
      · exact h
theorem alBr_no : ∀ (g r : List UInt8), (∀ c ∈ g, bl3 c = true) → 10 ∉ g → alBr (g ++ r) = alBr r := by
  intro g
  induction g with
  | nil => intro r _ _; rfl
  | cons c g ih =>
    intro r hb h
    simp only [List.mem_cons, not_or] at h
    rw [List.cons_append, alBr, if_neg (Ne.symm h.1), if_pos (hb c (List.mem_cons_self ..))]
    exact ih r (fun x hx => hb x (List.mem_cons_of_mem _ hx)) h.2
theorem alBr_hit : ∀ (m r : List UInt8), No10 m → (∃ c ∈ m, bl3 c = false) → alBr (m ++ r) = false := by
  intro m
  induction m with
  | nil => intro r _ h; obtain ⟨c, hc, _⟩ := h; simp at hc
  | cons c m ih =>
    intro r hn h
    rw [List.cons_append, alBr, if_neg (hn c (List.mem_cons_self ..))]
    cases hb : bl3 c with
    | false => rfl
    | true =>
      simp only [if_true]
      refine ih r hn.tail ?_
      obtain ⟨d, hd, hf⟩ := h
      rcases List.mem_cons.1 hd with rfl | hd
      · rw [hb] at hf; cases hf
      · exact ⟨d, hd, hf⟩
theorem RState.blanks {T : List UInt8} {TR : List Tok × Int × Nat} {acc : List Tok} : ∀ (g R : List UInt8) (i : Nat), RState T TR i acc → T.drop i = g ++ R → (∀ c ∈ g, bl3 c = true) → RState T TR (i + g.length) acc := by
  intro g
  induction g with
  | nil => intro R i h _ _; exact h
  | cons c g ih =>
    intro R i h hd hb
    have hi : i < T.length := by
      have := congrArg List.length hd; simp at this; omega
    rw [List.drop_eq_getElem_cons hi] at hd
    injection hd with h1 h2
    have := h.blank hi (by rw [h1]; exact hb c (List.mem_cons_self ..))
    have := ih R (i + 1) this h2 (fun x hx => hb x (List.mem_cons_of_mem _ hx))
    rw [List.length_cons, show i + (g.length + 1) = i + 1 + g.length by omega]; exact this
theorem rescan_go (T : List UInt8) : ∀ (ps : List (List UInt8 × Tok)) (p : Option Tok) (i : Nat) (acc : List Tok) (tl : List UInt8), RState T (toksRes T) i acc → T.drop i = render ps tl →
    endsEl acc = endK p → (∀ q, p = some q → Good q ∧ ∃ A, T.take i = A ++ q.text) → Okp p ps tl → toksRes T = (acc ++ placed ps i, 0, 0) := by
  intro ps
  induction ps with
  | nil =>
    intro p i acc tl hS hd _ _ hO
    have := RState.blanks tl [] i hS (by rw [hd, render]; simp) hO.1
    have hle := this.le
    have hl := congrArg List.length hd
    have hS := hS.le
    simp [render] at hl
    rw [this.done (by omega)]; simp [placed]
  | cons q ps ih =>
    obtain ⟨g, t⟩ := q
    intro p i acc tl hS hd he hp hO
    have hil := hS.le
    obtain ⟨hg, ht, hgl, hbe, hO⟩ := hO
    rw [render] at hd
    have hS := RState.blanks g _ i hS hd hg
    have hd2 : T.drop (i + g.length) = t.text ++ render ps tl := by
      rw [← List.drop_drop, hd, List.drop_left]
    have htk : T.take (i + g.length) = T.take i ++ g := by
      rw [List.take_add, hd, List.take_left]
    generalize hi' : i + g.length = i' at hS hd2 htk
    obtain ⟨c, x, hx, hcb⟩ := ht.head
    have hil' : i' < T.length := by
      have := congrArg List.length hd2; rw [hx] at this; simp at this; omega
    have hTi : T[i'] = c := by
      have := List.drop_eq_getElem_cons hil'
      rw [this, hx, List.cons_append] at hd2
      injection hd2
    obtain ⟨t', suf, s1, s2, s3, s4, s5⟩ := hS.step hil' (by rw [hTi]; exact hcb)
    have hf := follows_of hO
    have hline : T[i'] :: t' = t.text ++ (render ps tl).takeWhile inLn := by
      have h1 : (T.drop i').takeWhile inLn = T[i'] :: t' := by
        rw [s1, takeWhile_line inLn (fun _ => true) rfl (fun c hc => by simp [inLn, hc]) _ suf s3 s2, tw_true]
      rw [← h1, hd2, List.takeWhile_append_of_pos (fun a ha => by simp [inLn, ht.no10 a ha])]
    have hr := ht.self _ hf
    rw [← hline] at hr
    obtain ⟨h1, h2, h3, h4, h5⟩ := (s5 _ _ _ hr).2 rfl
    have hx1 : (T[i'] :: t').take t.text.length = t.text := by rw [hline, List.take_left]
    have hx2 : (if t.kind = 5 then i' + (T[i'] :: t').length else i' + t.text.length) = i' + t.text.length := by
      split
      · rename_i hk
        rw [hline, hf.1 hk, List.append_nil]
      · rfl
    have hx3 : ((t.kind == 5) && (!(alB T i') && endsEl acc)) = t.behind := by
      by_cases hk : t.kind = 5
      · rw [hbe hk, he]
        cases hp2 : endK p with
        | false => simp
        | true =>
          cases p with
          | none => cases hp2
          | some q =>
            obtain ⟨hq, A, hA⟩ := hp q rfl
            rw [alB_alBr T i' (by omega), htk, hA]
            simp only [List.reverse_append]
            have hgr : ∀ c ∈ g.reverse, bl3 c = true := fun c hc => hg c (List.mem_reverse.1 hc)
            by_cases h10 : (10 : UInt8) ∈ g
            · rw [alBr_10 _ _ hgr (List.mem_reverse.2 h10)]
              simp [h10]
            · rw [alBr_no _ _ hgr (fun h => h10 (List.mem_reverse.1 h)), alBr_hit _ _ (fun c hc => hq.no10 c (List.mem_reverse.1 hc))]
              · simp [hk, h10]
              · obtain ⟨c, x, hx, hb⟩ := hq.head
                exact ⟨c, by rw [hx]; simp, hb⟩
      · rw [ht.beh hk]; simp [hk]
    rw [hx1, hx2, hx3] at h4
    have := ih (some t) _ _ tl h4 (by rw [← List.drop_drop, hd2, List.drop_left]) (by unfold endsEl endK; simp) (fun q hq => by
      injection hq with hq; subst hq
      refine ⟨ht, T.take i', ?_⟩
      rw [List.take_add, hd2, List.take_left]) hO
    rw [this, placed, hi']
    simp
/-- Tokens with other blanks between them are read as the same tokens. -/
theorem rescan (ps : List (List UInt8 × Tok)) (tl : List UInt8) (h : Okp none ps tl) : toksRes (render ps tl) = (placed ps 0, 0, 0) := by
  have := rescan_go (render ps tl) ps none 0 [] tl (RState.start _) rfl rfl (fun q hq => by cases hq) h
  simpa using this
end Sc
end Go.Proofs.YtoieklacpkahbaaDoor
namespace Go.Proofs.YtoieklacpkahbaaDoor
open Go.RowKit
namespace Sc
/-- What a token is, but for its place. -/
def key (t : Tok) : Int × List UInt8 × Bool := (t.kind, t.text, t.behind)
theorem key_kind {t u : Tok} (h : key t = key u) : t.kind = u.kind := congrArg (·.1) h
theorem key_text {t u : Tok} (h : key t = key u) : t.text = u.text := congrArg (·.2.1) h
theorem key_behind {t u : Tok} (h : key t = key u) : t.behind = u.behind := congrArg (·.2.2) h
theorem leadsB_key {p q t u : Tok} (h1 : key p = key q) (h2 : key t = key u) : leadsB p t = leadsB q u := by
  unfold leadsB; rw [key_kind h2, key_text h1, key_text h2]
theorem leads_key {p q : Tok} {ts us : List Tok} (h1 : key p = key q) (h2 : ts.map key = us.map key) : leads p ts = leads q us := by
  cases ts with
  | nil => cases us with
    | nil => rfl
    | cons u us => simp at h2
  | cons t ts => cases us with
    | nil => simp at h2
    | cons u us => simp only [List.map_cons, List.cons.injEq] at h2; exact leadsB_key h1 h2.1
theorem listsGo_key : ∀ (ts us : List Tok) (st st' : List Int), ts.map key = us.map key → st.length = st'.length → (listsGo ts st).1 = (listsGo us st').1 := by
  intro ts
  induction ts with
  | nil =>
    intro us st st' h hs
    cases us with
    | cons u us => simp at h
    | nil =>
      rw [listsGo, listsGo]
      cases h1 : st.getLast? with
      | none =>
        have : st' = [] := List.eq_nil_of_length_eq_zero (by rw [← hs, List.getLast?_eq_none_iff.1 h1]; rfl)
        rw [this]; rfl
      | some p =>
        cases h2 : st'.getLast? with
        | none =>
          have : st = [] := List.eq_nil_of_length_eq_zero (by rw [hs, List.getLast?_eq_none_iff.1 h2]; rfl)
          rw [this] at h1; cases h1
        | some q => rfl
  | cons t ts ih =>
    intro us st st' h hs
    cases us with
    | nil => simp at h
    | cons u us =>
      simp only [List.map_cons, List.cons.injEq] at h
      rw [listsGo, listsGo, key_kind h.1, leads_key h.1 h.2, hs]
      split
      · split
        · rfl
        · exact ih _ _ _ h.2 (by simp [hs])
      · split
        · split
          · rfl
          · exact ih _ _ _ h.2 (by simp [hs])
        · split
          · split
            · exact ih _ _ _ h.2 hs
            · rfl
          · exact ih _ _ _ h.2 hs
theorem placed_key : ∀ (ps : List (List UInt8 × Tok)) (i : Nat), (placed ps i).map key = (ps.map (·.2)).map key := by
  intro ps
  induction ps with
  | nil => intro i; rfl
  | cons q ps ih => intro i; obtain ⟨g, t⟩ := q; simp only [placed, List.map_cons, ih]; rfl
theorem strangeI_clean : ∀ (l : List UInt8) (i : Nat), (∀ c ∈ l, strange c = false) → strangeI l i = -1 := by
  intro l
  induction l with
  | nil => intro i _; rfl
  | cons c l ih =>
    intro i h
    rw [strangeI, h c (List.mem_cons_self ..)]
    exact ih (i + 1) (fun x hx => h x (List.mem_cons_of_mem _ hx))
theorem strangeAt_clean (l : List UInt8) (h : ∀ c ∈ l, strange c = false) : strangeAt l = -1 := by
  unfold strangeAt; exact strangeI_clean _ 0 (by simpa using h)
theorem bl3_strange {c : UInt8} (h : bl3 c = true) : strange c = false := by
  rcases bl3_cases h with rfl | rfl | rfl <;> rfl
theorem render_clean : ∀ (ps : List (List UInt8 × Tok)) (p : Option Tok) (tl : List UInt8), Okp p ps tl → (∀ q ∈ ps, ∀ c ∈ q.2.text, strange c = false) → ∀ c ∈ render ps tl, strange c = false := by
  intro ps
  induction ps with
  | nil => intro p tl h _ c hc; exact bl3_strange (h.1 c hc)
  | cons q ps ih =>
    intro p tl h hc c hm
    obtain ⟨g, t⟩ := q
    rw [render] at hm
    rcases List.mem_append.1 hm with hm | hm
    · exact bl3_strange (h.1 c hm)
    · rcases List.mem_append.1 hm with hm | hm
      · exact hc _ (List.mem_cons_self ..) c hm
      · exact ih (some t) tl h.2.2.2.2 (fun q hq => hc q (List.mem_cons_of_mem _ hq)) c hm
theorem Cov.mem {l : List UInt8} {ts : List Tok} {a b : Nat} (h : Cov l ts a b) : ∀ t ∈ ts, ∀ c ∈ t.text, c ∈ l := by
  induction ts generalizing a with
  | nil => intro t ht; simp at ht
  | cons u ts ih =>
    obtain ⟨p, h1, h2, h3, h4, h5, h6⟩ := h
    intro t ht c hc
    rcases List.mem_cons.1 ht with rfl | ht
    · rw [h5] at hc; exact List.mem_of_mem_drop (List.mem_of_mem_take hc)
    · exact ih h6 t ht c hc
/-- What a text that is read is. -/
theorem scan_ok {l : List UInt8} {ts : List Tok} {pl : Int} (h : scanRes l = (ts, 0, pl)) : l.length ≤ 4096 ∧ strangeAt l < 0 ∧ toksRes l = (ts, 0, (toksRes l).2.2) ∧ (listsRes ts).1 = 0 ∧ pl = 0 := by
  unfold scanRes at h
  split at h
  · simp at h
  · split at h
    · simp at h
    · split at h
      · simp only [Prod.mk.injEq] at h; exact absurd h.2.1 (by assumption)
      · split at h
        · simp only [Prod.mk.injEq] at h; exact absurd h.2.1 (by assumption)
        · simp only [Prod.mk.injEq] at h
          rename_i h1 h2 h3 h4
          have h3 := Decidable.not_not.1 h3
          have h4 := Decidable.not_not.1 h4
          obtain ⟨h5, _, h6⟩ := h
          rw [h5] at h4
          refine ⟨by omega, by omega, ?_, h4, h6.symm⟩
          rw [← h5, ← h3]
theorem scan_good {l : List UInt8} {ts : List Tok} {pl : Int} (h : scanRes l = (ts, 0, pl)) : ∀ t ∈ ts, Good t ∧ Shape t ∧ ∀ c ∈ t.text, strange c = false := by
  obtain ⟨h1, h2, h3, h4, _⟩ := scan_ok h
  have e1 : (toksRes l).1 = ts := by rw [h3]
  have e2 : (toksRes l).2.1 = 0 := by rw [h3]
  have hg := toksRes_good l
  have hs := toksRes_shape l
  have hc := toksRes_cov l e2
  rw [e1] at hg hs hc
  exact fun t ht => ⟨hg t ht, hs t ht, fun c hc' => strangeI_neg l 0 (by simpa [strangeAt] using h2) c (hc.mem t ht c hc')⟩
/-- A text that is read, with other blanks, is read the same. -/
theorem scan_render {l : List UInt8} {ts : List Tok} {pl : Int} (h : scanRes l = (ts, 0, pl)) (ps : List (List UInt8 × Tok)) (tl : List UInt8) (hk : (ps.map (·.2)).map key = ts.map key)
    (ho : Okp none ps tl) (hl : (render ps tl).length ≤ 4096) : scanRes (render ps tl) = (placed ps 0, 0, 0) := by
  have hg := scan_good h
  obtain ⟨h1, h2, h3, h4, _⟩ := scan_ok h
  have hst : strangeAt (render ps tl) = -1 := by
    refine strangeAt_clean _ (render_clean ps none tl ho fun q hq c hc => ?_)
    have : key q.2 ∈ (ps.map (·.2)).map key := by
      rw [List.map_map]; exact List.mem_map.2 ⟨q, hq, rfl⟩
    rw [hk] at this
    obtain ⟨t, ht, e⟩ := List.mem_map.1 this
    rw [← key_text e] at hc
    exact (hg t ht).2.2 c hc
  have hr := rescan ps tl ho
  have hls : (listsRes (placed ps 0)).1 = 0 := by
    rw [← h4]; unfold listsRes
    exact listsGo_key _ _ _ _ (by rw [placed_key, hk]) rfl
  unfold scanRes
  rw [if_neg (by omega), if_neg (by omega), hr]
  simp [hls]
end Sc
end Go.Proofs.YtoieklacpkahbaaDoor
