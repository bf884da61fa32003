/- Plain functions: tokens; a line's tokens. No program here. -/
import Derived.Test.YtigdfhcmhidhbaaDoorPlain
namespace Go.Proofs.YtigdfhcmhidhbaaDoor
open Go.RowKit
namespace Sc
/-- A token. -/
structure Tok where
  kind : Int
  text : List UInt8
  place : Int
  behind : Bool
def Tok.cells (t : Tok) : List Value := [.int .i64 t.kind, .string ⟨t.text.toArray⟩, .int .i64 t.place, .bool t.behind]
def tcells : List Tok → List Value
  | [] => []
  | t :: ts => t.cells ++ tcells ts
theorem tcells_len (ts : List Tok) : (tcells ts).length = ts.length * 4 := by
  induction ts with
  | nil => rfl
  | cons t ts ih => simp [tcells, Tok.cells, ih]; omega
theorem tcells_append (a b : List Tok) : tcells (a ++ b) = tcells a ++ tcells b := by
  induction a with
  | nil => rfl
  | cons t a ih => simp [tcells, ih]
theorem tcells_get (ts : List Tok) (i j : Nat) (h : i < ts.length) (hj : j < 4) : (tcells ts)[i * 4 + j]? = ts[i].cells[j]? := by
  induction ts generalizing i with
  | nil => simp at h
  | cons t ts ih =>
    cases i with
    | zero =>
      simp only [tcells, Nat.zero_mul, Nat.zero_add, List.getElem_cons_zero]
      rw [List.getElem?_append_left (by simp [Tok.cells]; omega)]
    | succ i =>
      simp only [tcells, List.getElem_cons_succ]
      rw [List.getElem?_append_right (by simp [Tok.cells]; omega)]
      rw [← ih i (by simpa using h)]
      congr 1
      simp [Tok.cells]; omega
/-- Does the last token end an element? -/
def endsEl (ts : List Tok) : Bool := match ts.getLast? with | none => false | some t => (t.kind == 1) || (t.kind == 3)
theorem endsEl_last (ts : List Tok) (h : ts.length - 1 < ts.length) : endsEl ts = ((ts[ts.length - 1].kind == 1) || (ts[ts.length - 1].kind == 3)) := by
  unfold endsEl
  rw [List.getLast?_eq_getElem?, List.getElem?_eq_getElem h]

/-- What a plain atom is. -/
theorem atomLen_le (l : List UInt8) : atomLen l ≤ l.length := by
  unfold atomLen; exact (List.takeWhile_prefix _).length_le
theorem blkGo_le : ∀ (l : List UInt8) (i : Nat) (o : Int), blkGo l i o ≤ i + l.length
  | [], i, o => by simp [blkGo]
  | [_], i, o => by simp [blkGo]
  | a :: b :: t, i, o => by
    have h1 := blkGo_le t (i + 2) (o + 1)
    have h2 := blkGo_le t (i + 2) (o - 1)
    have h3 := blkGo_le (b :: t) (i + 1) o
    simp only [List.length_cons] at h3 ⊢
    rw [blkGo]
    split
    · split <;> omega
    · split
      · split <;> omega
      · split <;> omega
theorem strGo_le : ∀ (l : List UInt8) (i : Nat), strGo l i ≤ i + l.length
  | [], i => by simp [strGo]
  | [_], i => by
    rw [strGo]; split
    · omega
    · split <;> simp
  | c :: d :: t, i => by
    have h1 := strGo_le t (i + 2)
    have h2 := strGo_le (d :: t) (i + 1)
    simp only [List.length_cons] at h2 ⊢
    rw [strGo]
    split
    · omega
    · split <;> omega
theorem blkLen_le (l : List UInt8) : blkLen l ≤ l.length := by
  have := blkGo_le (l.drop 0) 0 0
  simpa [blkLen] using this
theorem strLen_le (l : List UInt8) (h : 0 < l.length) : strLen l ≤ l.length := by
  have := strGo_le (l.drop 1) 1
  unfold strLen; simp only [List.length_drop] at this; omega
theorem trimRightS_eq (l : List UInt8) : Lib.trimRightS l [32, 9] = l.take (trimLen l) ∧ trimLen l ≤ l.length ∧ (∀ c ∈ l.drop (trimLen l), isBl c = true) := by
  have hp : (fun c => [32, 9].contains c) = isBl := by
    funext c; unfold isBl
    by_cases h1 : c = 32
    · subst h1; rfl
    by_cases h2 : c = 9
    · subst h2; rfl
    simp [h1, h2]
  have e1 : Lib.trimRightS l [32, 9] = (l.reverse.dropWhile isBl).reverse := by
    unfold Lib.trimRightS; rw [hp]
  have e2 : l = (l.reverse.dropWhile isBl).reverse ++ (l.reverse.takeWhile isBl).reverse := by
    rw [← List.reverse_append, List.takeWhile_append_dropWhile, List.reverse_reverse]
  have e3 : trimLen l = (l.reverse.dropWhile isBl).reverse.length := by unfold trimLen; rw [e1]
  refine ⟨?_, ?_, ?_⟩
  · rw [e1, e3]
    generalize (l.reverse.dropWhile isBl).reverse = x at e2
    generalize (l.reverse.takeWhile isBl).reverse = y at e2
    rw [e2]; simp
  · rw [e3]
    generalize (l.reverse.dropWhile isBl).reverse = x at e2
    generalize (l.reverse.takeWhile isBl).reverse = y at e2
    rw [e2]; simp
  · intro c hc
    have hy : l.drop (trimLen l) = (l.reverse.takeWhile isBl).reverse := by
      rw [e3]
      generalize (l.reverse.dropWhile isBl).reverse = x at e2
      generalize (l.reverse.takeWhile isBl).reverse = y at e2
      rw [e2]; simp
    rw [hy] at hc
    have := List.mem_reverse.1 hc
    exact List.all_takeWhile (p := isBl) (l := l.reverse) |> List.all_eq_true.1 |> fun h => h c this

theorem ite_P {α : Type} {P : α → Prop} {c : Prop} [Decidable c] {a b : α} (ha : c → P a) (hb : ¬ c → P b) : P (if c then a else b) := by
  by_cases h : c
  · rw [if_pos h]; exact ha h
  · rw [if_neg h]; exact hb h
theorem readTok_P (P : Int × Nat × Int → Prop) (l : List UInt8)
    (p1 : l.take 2 == [35, 40] → P (2, 2, 0)) (p2 : l.take 2 == [44, 64] → P (4, 2, 0)) (p3 : l.take 2 == [35, 59] → P (4, 2, 0))
    (p4 : l.take 2 == [35, 124] → P (enK (blkLen l), blkLen l, enE (blkLen l) 4))
    (p5 : h0 l 40 → P (2, 1, 0)) (p6 : h0 l 41 → P (3, 1, 0)) (p7 : h0 l 39 → P (4, 1, 0)) (p8 : h0 l 96 → P (4, 1, 0)) (p9 : h0 l 44 → ¬ l.take 2 == [44, 64] → P (4, 1, 0))
    (p10 : h0 l 59 → P (5, trimLen l, 0)) (p11 : h0 l 34 → P (enK (strLen l), strLen l, enE (strLen l) 3))
    (p12 : ¬ l.take 2 == [35, 40] → ¬ l.take 2 == [35, 59] → ¬ l.take 2 == [35, 124] → ¬ h0 l 40 → ¬ h0 l 41 → ¬ h0 l 39 → ¬ h0 l 96 → ¬ h0 l 44 → ¬ h0 l 59 → ¬ h0 l 34 → P (1, atomLen l, 0)) : P (readTok l) := by
  unfold readTok
  refine ite_P p1 fun n1 => ite_P p2 fun n2 => ite_P p3 fun n3 => ite_P p4 fun n4 => ite_P p5 fun n5 => ite_P p6 fun n6 => ite_P p7 fun n7 => ite_P p8 fun n8 =>
    ite_P (fun h => p9 h n2) fun n9 => ite_P p10 fun n10 => ite_P p11 fun n11 => p12 n1 n3 n4 n5 n6 n7 n8 n9 n10 n11
theorem take2_len {l : List UInt8} {a b : UInt8} (h : l.take 2 == [a, b]) : 2 ≤ l.length := by
  have := congrArg List.length (beq_iff_eq.1 h); simp at this; omega
theorem h0_iff (c : UInt8) (t : List UInt8) (d : UInt8) : h0 (c :: t) (d.toNat : Int) = true ↔ c = d := by
  unfold h0; simp only [List.headD_cons, beq_iff_eq]
  constructor
  · intro h; exact UInt8.toNat_inj.1 (by omega)
  · rintro rfl; rfl
theorem atomGo_of {c : UInt8} {t : List UInt8} (hb : isBl c = false) (a : ¬ h0 (c :: t) 40) (b : ¬ h0 (c :: t) 41) (d : ¬ h0 (c :: t) 39) (e : ¬ h0 (c :: t) 96) (f : ¬ h0 (c :: t) 44) (g : ¬ h0 (c :: t) 59) (i : ¬ h0 (c :: t) 34) : atomGo c = true := by
  have a' : c ≠ 40 := fun x => a ((h0_iff c t 40).2 x)
  have b' : c ≠ 41 := fun x => b ((h0_iff c t 41).2 x)
  have d' : c ≠ 39 := fun x => d ((h0_iff c t 39).2 x)
  have e' : c ≠ 96 := fun x => e ((h0_iff c t 96).2 x)
  have f' : c ≠ 44 := fun x => f ((h0_iff c t 44).2 x)
  have g' : c ≠ 59 := fun x => g ((h0_iff c t 59).2 x)
  have i' : c ≠ 34 := fun x => i ((h0_iff c t 34).2 x)
  unfold isBl at hb
  simp at hb
  simp [atomGo, atomEnds, a', b', d', e', f', g', i', hb.1, hb.2]
theorem readTok_ok (c : UInt8) (t : List UInt8) (hb : isBl c = false) : (readTok (c :: t)).2.2 = 0 → 1 ≤ (readTok (c :: t)).2.1 ∧ (readTok (c :: t)).2.1 ≤ (c :: t).length := by
  refine readTok_P (fun r => r.2.2 = 0 → 1 ≤ r.2.1 ∧ r.2.1 ≤ (c :: t).length) (c :: t) ?_ ?_ ?_ ?_ ?_ ?_ ?_ ?_ ?_ ?_ ?_ ?_
  · intro h _; have := take2_len h; exact ⟨by decide, this⟩
  · intro h _; have := take2_len h; exact ⟨by decide, this⟩
  · intro h _; have := take2_len h; exact ⟨by decide, this⟩
  · intro _ h
    have := blkLen_le (c :: t)
    refine ⟨?_, this⟩
    show 1 ≤ blkLen (c :: t)
    by_cases h0 : blkLen (c :: t) = 0
    · simp [enE, h0] at h
    · omega
  · intro _ _; exact ⟨by decide, by simp⟩
  · intro _ _; exact ⟨by decide, by simp⟩
  · intro _ _; exact ⟨by decide, by simp⟩
  · intro _ _; exact ⟨by decide, by simp⟩
  · intro _ _ _; exact ⟨by decide, by simp⟩
  · intro h _
    have hc : c = 59 := (h0_iff c t 59).1 h
    have e := trimRightS_eq (c :: t)
    refine ⟨?_, e.2.1⟩
    show 1 ≤ trimLen (c :: t)
    by_cases h0 : trimLen (c :: t) = 0
    · have := e.2.2 c (by rw [h0]; simp)
      rw [hb] at this; cases this
    · omega
  · intro _ h
    have := strLen_le (c :: t) (by simp)
    refine ⟨?_, this⟩
    show 1 ≤ strLen (c :: t)
    by_cases h0 : strLen (c :: t) = 0
    · simp [enE, h0] at h
    · omega
  · intro _ _ _ n5 n6 n7 n8 n9 n10 n11 _
    refine ⟨?_, atomLen_le _⟩
    show 1 ≤ atomLen (c :: t)
    unfold atomLen
    rw [List.takeWhile_cons, if_pos (atomGo_of hb n5 n6 n7 n8 n9 n10 n11)]
    simp

/-- readLine: from the place a on, with the tokens acc so far. -/
def lineGo (l : List UInt8) : Nat → Nat → List Tok → List Tok × Int × Nat
  | 0, _, acc => (acc, 0, 0)
  | f + 1, a, acc =>
    if l.length ≤ a then (acc, 0, 0)
    else if (readTok (l.drop a)).2.2 = 0 then
      lineGo l f (skipB l (a + (readTok (l.drop a)).2.1)) (acc ++ [⟨(readTok (l.drop a)).1, (l.drop a).take (readTok (l.drop a)).2.1, a, ((readTok (l.drop a)).1 == 5) && endsEl acc⟩])
    else ([], (readTok (l.drop a)).2.2, a)
def lineRes (l : List UInt8) : List Tok × Int × Nat := lineGo l (l.length + 1) (skipB l 0) []

theorem lineGo_end (l : List UInt8) (f a : Nat) (acc : List Tok) (h : l.length ≤ a) : lineGo l f a acc = (acc, 0, 0) := by
  cases f with
  | zero => rfl
  | succ f => rw [lineGo, if_pos h]
theorem lineGo_bad (l : List UInt8) (f a : Nat) (acc : List Tok) (h : a < l.length) (hf : 0 < f) (he : (readTok (l.drop a)).2.2 ≠ 0) : lineGo l f a acc = ([], (readTok (l.drop a)).2.2, a) := by
  cases f with
  | zero => omega
  | succ f => rw [lineGo, if_neg (by omega), if_neg he]
theorem lineGo_on (l : List UInt8) (f a : Nat) (acc : List Tok) (h : a < l.length) (he : (readTok (l.drop a)).2.2 = 0) :
    lineGo l (f + 1) a acc = lineGo l f (skipB l (a + (readTok (l.drop a)).2.1)) (acc ++ [⟨(readTok (l.drop a)).1, (l.drop a).take (readTok (l.drop a)).2.1, a, ((readTok (l.drop a)).1 == 5) && endsEl acc⟩]) := by
  rw [lineGo, if_neg (by omega), if_pos he]
/-- Behind skipBlanks: the end, or no blank. -/
theorem skipB_at (l : List UInt8) (a : Nat) (h : skipB l a < l.length) : isBl (l[skipB l a]) = false := by
  have key : ∀ (m : List UInt8) (h : blN m < m.length), isBl m[blN m] = false := by
    intro m
    induction m with
    | nil => intro h; simp at h
    | cons c m ih =>
      intro h
      unfold blN at h ⊢
      cases hc : isBl c with
      | false => simp [hc]
      | true =>
        simp only [List.takeWhile_cons, hc, if_true, List.length_cons] at h ⊢
        exact ih (by unfold blN; omega)
  unfold skipB at h ⊢
  have := key (l.drop a) (by rw [List.length_drop]; omega)
  rw [List.getElem_drop] at this
  exact this
end Sc
end Go.Proofs.YtigdfhcmhidhbaaDoor
