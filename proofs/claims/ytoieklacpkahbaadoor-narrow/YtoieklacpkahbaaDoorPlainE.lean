/- Plain functions: what package scan computes, on lists of bytes. No program here. -/
/- Plain functions: tokens; a line's tokens. No program here. -/
/- Plain functions: a text's lines and tokens. No program here. -/
/- Plain functions: tokens read as lists. No program here. -/
/- Plain laws: tokens cover the text. No program here. -/
import Derived.WalkKit
import Derived.Lib.Strings
import Derived.Lib.IndexAny
import Derived.Shelf.Strings.SlTrimAscii
import Derived.Lib.SplitLaws
namespace Go.Proofs.YtoieklacpkahbaaDoor
open Go.RowKit
theorem hide {p : Prop} (h : p) : Hid p := h
theorem unhide {p : Prop} (h : Hid p) : p := h
namespace Sc

/-- A blank within a line. -/
def isBl (c : UInt8) : Bool := c == 32 || c == 9
/-- How many blanks a list begins with. -/
def blN (l : List UInt8) : Nat := (l.takeWhile isBl).length
/-- skipBlanks. -/
def skipB (l : List UInt8) (a : Nat) : Nat := a + blN (l.drop a)

theorem blN_le (l : List UInt8) : blN l ≤ l.length := by
  unfold blN; exact (List.takeWhile_prefix _).length_le
theorem skipB_le (l : List UInt8) (a : Nat) (h : a ≤ l.length) : a ≤ skipB l a ∧ skipB l a ≤ l.length := by
  unfold skipB; have := blN_le (l.drop a); simp at this; omega
theorem skipB_hit (l : List UInt8) (a : Nat) (h : a < l.length) (hb : isBl l[a] = true) : skipB l a = skipB l (a + 1) := by
  unfold skipB blN
  rw [List.drop_eq_getElem_cons h, List.takeWhile_cons, if_pos hb]; simp; omega
theorem skipB_miss (l : List UInt8) (a : Nat) (h : a < l.length) (hb : isBl l[a] = false) : skipB l a = a := by
  unfold skipB blN
  rw [List.drop_eq_getElem_cons h, List.takeWhile_cons, if_neg (by simp [hb])]; simp
theorem skipB_end (l : List UInt8) (a : Nat) (h : l.length ≤ a) : skipB l a = a := by
  unfold skipB blN; rw [List.drop_eq_nil_of_le h]; simp
/-- The test that the program asks. -/
theorem ix_bl (c : UInt8) : (0 ≤ Lib.indexByte [32, 9] c) ↔ isBl c = true := by
  unfold isBl
  by_cases h1 : c = 32
  · subst h1; decide
  by_cases h2 : c = 9
  · subst h2; decide
  · simp [Lib.indexByte, h1, h2, Ne.symm h1, Ne.symm h2]
def blIx (c : UInt8) : Int := Lib.indexByte [32, 9] c
theorem blIx_yes {c : UInt8} (h : isBl c = true) : 0 ≤ blIx c := (ix_bl c).2 h
theorem blIx_no {c : UInt8} (h : isBl c = false) : blIx c < 0 := by
  have := ix_bl c; unfold blIx; rw [h] at this; simp at this; exact this

/-- stringLength, from the i-th byte on. -/
def strGo : List UInt8 → Nat → Nat
  | [], _ => 0
  | [c], i => if c == 92 then 0 else if c == 34 then i + 1 else 0
  | c :: d :: t, i => if c == 92 then strGo t (i + 2) else if c == 34 then i + 1 else strGo (d :: t) (i + 1)

theorem strGo_hit (l : List UInt8) (k : Nat) (h : k < l.length) (h1 : l[k] = 34) : strGo (l.drop k) k = k + 1 := by
  rw [List.drop_eq_getElem_cons h, h1]
  cases l.drop (k + 1) <;> simp [strGo]
theorem strGo_esc (l : List UInt8) (k : Nat) (h : k < l.length) (h1 : l[k] = 92) : strGo (l.drop k) k = strGo (l.drop (k + 2)) (k + 2) := by
  rw [List.drop_eq_getElem_cons h, h1]
  have e : l.drop (k + 2) = (l.drop (k + 1)).drop 1 := by rw [List.drop_drop]
  rw [e]
  cases l.drop (k + 1) <;> simp [strGo]
theorem strGo_on (l : List UInt8) (k : Nat) (h : k < l.length) (h1 : l[k] ≠ 92) (h2 : l[k] ≠ 34) : strGo (l.drop k) k = strGo (l.drop (k + 1)) (k + 1) := by
  rw [List.drop_eq_getElem_cons h]
  cases l.drop (k + 1) <;> simp [strGo, h1, h2]
theorem strGo_end (l : List UInt8) (k : Nat) (h : l.length ≤ k) : strGo (l.drop k) k = 0 := by
  rw [List.drop_eq_nil_of_le h]; rfl
def strLen (l : List UInt8) : Nat := strGo (l.drop 1) 1

/-- blockLength, from the i-th byte on; o: how many are open. -/
def blkGo : List UInt8 → Nat → Int → Nat
  | a :: b :: t, i, o =>
    if a = 35 ∧ b = 124 then (if o + 1 = 0 then i + 2 else blkGo t (i + 2) (o + 1))
    else if a = 124 ∧ b = 35 then (if o - 1 = 0 then i + 2 else blkGo t (i + 2) (o - 1))
    else if o = 0 then i + 1 else blkGo (b :: t) (i + 1) o
  | _, _, _ => 0

theorem two_cons (l : List UInt8) (k : Nat) (h : k + 2 ≤ l.length) : l.drop k = l[k] :: l[k + 1] :: l.drop (k + 2) := by
  rw [List.drop_eq_getElem_cons (by omega), List.drop_eq_getElem_cons (by omega)]
theorem blkGo_step (l : List UInt8) (k : Nat) (o : Int) (h : k + 2 ≤ l.length) : blkGo (l.drop k) k o =
    (if l[k] = 35 ∧ l[k + 1] = 124 then (if o + 1 = 0 then k + 2 else blkGo (l.drop (k + 2)) (k + 2) (o + 1))
    else if l[k] = 124 ∧ l[k + 1] = 35 then (if o - 1 = 0 then k + 2 else blkGo (l.drop (k + 2)) (k + 2) (o - 1))
    else if o = 0 then k + 1 else blkGo (l.drop (k + 1)) (k + 1) o) := by
  rw [two_cons l k h, List.drop_eq_getElem_cons (i := k + 1) (by omega), blkGo]
theorem blkGo_end (l : List UInt8) (k : Nat) (o : Int) (h : l.length < k + 2) : blkGo (l.drop k) k o = 0 := by
  match hd : l.drop k with
  | [] => rfl
  | [_] => rfl
  | _ :: _ :: _ => have := congrArg List.length hd; simp at this; omega
def blkLen (l : List UInt8) : Nat := blkGo (l.drop 0) 0 0

/-- A byte that may not stand in a text. -/
def strange (c : UInt8) : Bool := !(c == 9) && !(c == 10) && (decide (c.toNat < 32) || decide (126 < c.toNat))
/-- strangeByte, from the i-th byte on. -/
def strangeI : List UInt8 → Nat → Int
  | [], _ => -1
  | c :: t, i => if strange c then i else strangeI t (i + 1)
theorem strangeI_hit (l : List UInt8) (k : Nat) (h : k < l.length) (h1 : strange l[k] = true) : strangeI (l.drop k) k = k := by
  rw [List.drop_eq_getElem_cons h]; simp [strangeI, h1]
theorem strangeI_on (l : List UInt8) (k : Nat) (h : k < l.length) (h1 : strange l[k] = false) : strangeI (l.drop k) k = strangeI (l.drop (k + 1)) (k + 1) := by
  rw [List.drop_eq_getElem_cons h]; simp [strangeI, h1]
theorem strangeI_end (l : List UInt8) (k : Nat) (h : l.length ≤ k) : strangeI (l.drop k) k = -1 := by
  rw [List.drop_eq_nil_of_le h]; rfl
def strangeAt (l : List UInt8) : Int := strangeI (l.drop 0) 0

/-- What ends a plain atom. -/
def atomEnds : List UInt8 := [32, 9, 40, 41, 39, 44, 34, 59, 96]
def atomIx (l : List UInt8) : Int := Lib.indexAny l atomEnds
def atomGo (c : UInt8) : Bool := !(atomEnds.contains c)
def atomLen (l : List UInt8) : Nat := (l.takeWhile atomGo).length
theorem atomIx_len (l : List UInt8) : (0 ≤ atomIx l → (atomLen l : Int) = atomIx l) ∧ (atomIx l < 0 → atomIx l = -1 ∧ atomLen l = l.length) := by
  unfold atomIx atomLen
  induction l with
  | nil => simp [Lib.indexAny]
  | cons b l ih =>
    have hg := Lib.indexAny_ge atomEnds l
    rw [Lib.indexAny, List.takeWhile_cons]
    cases hb : atomEnds.contains b with
    | true =>
      have hc : atomGo b = false := by unfold atomGo; rw [hb]; rfl
      rw [hc]; simp
    | false =>
      have hc : atomGo b = true := by unfold atomGo; rw [hb]; rfl
      rw [hc]
      simp only [if_true, Bool.false_eq_true, if_false, List.length_cons]
      by_cases h1 : Lib.indexAny l atomEnds = -1
      · have := ih.2 (by omega)
        simp [h1, this.2]
      · have h2 := ih.1 (by omega)
        rw [if_neg (by simpa using h1)]
        refine ⟨fun _ => by push_cast; omega, fun h => by omega⟩
/-- endedAtom. -/
def enK (n : Nat) : Int := if n = 0 then 0 else 1
def enE (n : Nat) (m : Int) : Int := if n = 0 then m else 0
def trimLen (l : List UInt8) : Nat := (Lib.trimRightS l [32, 9]).length
def h0 (l : List UInt8) (n : Int) : Bool := (((l.headD 0).toNat : Int) == n)
/-- readToken: the kind, the length, the error. -/
def readTok (l : List UInt8) : Int × Nat × Int :=
  if l.take 2 == [35, 40] then (2, 2, 0)
  else if l.take 2 == [44, 64] then (4, 2, 0)
  else if l.take 2 == [35, 59] then (4, 2, 0)
  else if l.take 2 == [35, 124] then (enK (blkLen l), blkLen l, enE (blkLen l) 4)
  else if h0 l 40 then (2, 1, 0)
  else if h0 l 41 then (3, 1, 0)
  else if h0 l 39 then (4, 1, 0)
  else if h0 l 96 then (4, 1, 0)
  else if h0 l 44 then (4, 1, 0)
  else if h0 l 59 then (5, trimLen l, 0)
  else if h0 l 34 then (enK (strLen l), strLen l, enE (strLen l) 3)
  else (1, atomLen l, 0)
/-- A text of ASCII bytes alone. -/
def Ascii (l : List UInt8) : Prop := ∀ (j : Nat) b, l[j]? = some b → b.toNat < 128
theorem lget (s : ByteArray) (k : Nat) (h : k < s.size) : s.data.toList[k]'(by simpa using h) = s[k] := rfl
theorem lsize (s : ByteArray) : s.data.toList.length = s.size := by simp
theorem take2 (s : ByteArray) : (s.extract 0 (min 2 (s.size : Int)).toNat).toList = s.data.toList.take 2 := by
  rw [Lib.extract_toList]
  have : (min 2 (s.size : Int)).toNat - 0 = min 2 s.size := by omega
  rw [this, List.drop_zero, ← lsize s, ← List.take_take, List.take_length]
theorem head0 (s : ByteArray) (h : 0 < s.size) (n : Int) : h0 s.data.toList n = ((s[0].toNat : Int) == n) := by
  unfold h0
  have : s.data.toList.headD 0 = s[0] := by
    rw [← List.drop_zero (l := s.data.toList), List.drop_eq_getElem_cons (by rw [lsize]; exact h)]
    rfl
  rw [this]
theorem strange_yes {c : UInt8} (h9 : ¬ (c.toNat : Int) = 9) (h10 : ¬ (c.toNat : Int) = 10) (h : (c.toNat : Int) < 32 ∨ 126 < (c.toNat : Int)) : strange c = true := by
  have a : c ≠ 9 := fun e => h9 (by rw [e]; rfl)
  have b : c ≠ 10 := fun e => h10 (by rw [e]; rfl)
  simp [strange, a, b]; omega
theorem strange_no {c : UInt8} (h : (c.toNat : Int) = 9 ∨ (c.toNat : Int) = 10 ∨ (32 ≤ (c.toNat : Int) ∧ (c.toNat : Int) ≤ 126)) : strange c = false := by
  rcases h with h | h | h
  · have a : c = 9 := UInt8.toNat_inj.1 (by show c.toNat = 9; omega)
    rw [a]; rfl
  · have a : c = 10 := UInt8.toNat_inj.1 (by show c.toNat = 10; omega)
    rw [a]; rfl
  · simp [strange]; intros; omega
theorem two_list (s : ByteArray) (k : Nat) (h : k + 2 ≤ s.size) : (s.extract k (k + 2)).toList = [s[k], s[k + 1]] := by
  rw [Lib.extract_toList, two_cons _ _ (by rw [lsize]; exact h)]
  simp [show k + 2 - k = 2 by omega]
  exact ⟨rfl, rfl⟩
theorem two_eq {s : ByteArray} {k : Nat} (h : k + 2 ≤ s.size) {a b : UInt8} (e : ((s.extract k (k + 2)).toList == [a, b]) = true) : s[k] = a ∧ s[k + 1] = b := by
  rw [two_list s k h] at e; simpa using e
theorem two_ne {s : ByteArray} {k : Nat} (h : k + 2 ≤ s.size) {a b : UInt8} (e : ((s.extract k (k + 2)).toList == [a, b]) = false) : ¬ (s[k] = a ∧ s[k + 1] = b) := by
  rw [two_list s k h] at e; simpa using e
theorem blk_step {s : ByteArray} {k : Nat} {p : Int} (h : k + 2 ≤ s.size) : blkGo (s.data.toList.drop k) k p =
    (if s[k] = 35 ∧ s[k + 1] = 124 then (if p + 1 = 0 then k + 2 else blkGo (s.data.toList.drop (k + 2)) (k + 2) (p + 1))
    else if s[k] = 124 ∧ s[k + 1] = 35 then (if p - 1 = 0 then k + 2 else blkGo (s.data.toList.drop (k + 2)) (k + 2) (p - 1))
    else if p = 0 then k + 1 else blkGo (s.data.toList.drop (k + 1)) (k + 1) p) := blkGo_step _ k p (by rw [lsize]; exact h)
theorem blk1 {s : ByteArray} {k : Nat} {p : Int} (h : k + 2 ≤ s.size) (t : ((s.extract k (k + 2)).toList == [35, 124]) = true) (hp : (p + 1 == 0) = true) : blkGo (s.data.toList.drop k) k p = k + 2 := by
  rw [blk_step h, if_pos (two_eq h t), if_pos (by simpa using hp)]
theorem blk2 {s : ByteArray} {k : Nat} {p : Int} (h : k + 2 ≤ s.size) (t : ((s.extract k (k + 2)).toList == [35, 124]) = true) (hp : (p + 1 == 0) = false) : blkGo (s.data.toList.drop k) k p = blkGo (s.data.toList.drop (k + 2)) (k + 2) (p + 1) := by
  rw [blk_step h, if_pos (two_eq h t), if_neg (by simpa using hp)]
theorem blk3 {s : ByteArray} {k : Nat} {p : Int} (h : k + 2 ≤ s.size) (n : ((s.extract k (k + 2)).toList == [35, 124]) = false) (t : ((s.extract k (k + 2)).toList == [124, 35]) = true) (hp : (p - 1 == 0) = true) : blkGo (s.data.toList.drop k) k p = k + 2 := by
  rw [blk_step h, if_neg (two_ne h n), if_pos (two_eq h t), if_pos (by simpa using hp)]
theorem blk4 {s : ByteArray} {k : Nat} {p : Int} (h : k + 2 ≤ s.size) (n : ((s.extract k (k + 2)).toList == [35, 124]) = false) (t : ((s.extract k (k + 2)).toList == [124, 35]) = true) (hp : (p - 1 == 0) = false) : blkGo (s.data.toList.drop k) k p = blkGo (s.data.toList.drop (k + 2)) (k + 2) (p - 1) := by
  rw [blk_step h, if_neg (two_ne h n), if_pos (two_eq h t), if_neg (by simpa using hp)]
theorem blk5 {s : ByteArray} {k : Nat} {p : Int} (h : k + 2 ≤ s.size) (n : ((s.extract k (k + 2)).toList == [35, 124]) = false) (t : ((s.extract k (k + 2)).toList == [124, 35]) = false) (hp : (p == 0) = true) : blkGo (s.data.toList.drop k) k p = k + 1 := by
  rw [blk_step h, if_neg (two_ne h n), if_neg (two_ne h t), if_pos (by simpa using hp)]
theorem blk6 {s : ByteArray} {k : Nat} {p : Int} (h : k + 2 ≤ s.size) (n : ((s.extract k (k + 2)).toList == [35, 124]) = false) (t : ((s.extract k (k + 2)).toList == [124, 35]) = false) (hp : (p == 0) = false) : blkGo (s.data.toList.drop k) k p = blkGo (s.data.toList.drop (k + 1)) (k + 1) p := by
  rw [blk_step h, if_neg (two_ne h n), if_neg (two_ne h t), if_neg (by simpa using hp)]
theorem u8t {c d : UInt8} {n : Int} (h : ((c.toNat : Int) == n) = true) (hn : n = d.toNat := by rfl) : c = d := by
  subst hn; simp at h; exact UInt8.toNat_inj.1 (by omega)
theorem u8f {c d : UInt8} {n : Int} (h : ((c.toNat : Int) == n) = false) (hn : n = d.toNat := by rfl) : c ≠ d := by
  subst hn; simp at h; exact fun e => h (by rw [e])
end Sc
end Go.Proofs.YtoieklacpkahbaaDoor
namespace Go.Proofs.YtoieklacpkahbaaDoor
open Go.RowKit
namespace Sc
/-- A token. -/
structure Tok where
  kind : Int
  text : List UInt8
  place : Int
  behind : Bool
def Tok.cells (t : Tok) : List Value := [.int .i64 t.kind, .string ⟨t.text.toArray⟩, .int .i64 t.place, .bool t.behind]
def tcells : List Tok → List Value
  | [] => []
  | t :: ts => t.cells ++ tcells ts
theorem tcells_len (ts : List Tok) : (tcells ts).length = ts.length * 4 := by
  induction ts with
  | nil => rfl
  | cons t ts ih => simp [tcells, Tok.cells, ih]; omega
theorem tcells_append (a b : List Tok) : tcells (a ++ b) = tcells a ++ tcells b := by
  induction a with
  | nil => rfl
  | cons t a ih => simp [tcells, ih]
theorem tcells_get (ts : List Tok) (i j : Nat) (h : i < ts.length) (hj : j < 4) : (tcells ts)[i * 4 + j]? = ts[i].cells[j]? := by
  induction ts generalizing i with
  | nil => simp at h
  | cons t ts ih =>
    cases i with
    | zero =>
      simp only [tcells, Nat.zero_mul, Nat.zero_add, List.getElem_cons_zero]
      rw [List.getElem?_append_left (by simp [Tok.cells]; omega)]
    | succ i =>
      simp only [tcells, List.getElem_cons_succ]
      rw [List.getElem?_append_right (by simp [Tok.cells]; omega)]
      rw [← ih i (by simpa using h)]
      congr 1
      simp [Tok.cells]; omega
/-- Does the last token end an element? -/
def endsEl (ts : List Tok) : Bool := match ts.getLast? with | none => false | some t => (t.kind == 1) || (t.kind == 3)
theorem endsEl_last (ts : List Tok) (h : ts.length - 1 < ts.length) : endsEl ts = ((ts[ts.length - 1].kind == 1) || (ts[ts.length - 1].kind == 3)) := by
  unfold endsEl
  rw [List.getLast?_eq_getElem?, List.getElem?_eq_getElem h]

/-- What a plain atom is. -/
theorem atomLen_le (l : List UInt8) : atomLen l ≤ l.length := by
  unfold atomLen; exact (List.takeWhile_prefix _).length_le
theorem blkGo_le : ∀ (l : List UInt8) (i : Nat) (o : Int), blkGo l i o ≤ i + l.length
  | [], i, o => by simp [blkGo]
  | [_], i, o => by simp [blkGo]
  | a :: b :: t, i, o => by
    have h1 := blkGo_le t (i + 2) (o + 1)
    have h2 := blkGo_le t (i + 2) (o - 1)
    have h3 := blkGo_le (b :: t) (i + 1) o
    simp only [List.length_cons] at h3 ⊢
    rw [blkGo]
    split
    · split <;> omega
    · split
      · split <;> omega
      · split <;> omega
theorem strGo_le : ∀ (l : List UInt8) (i : Nat), strGo l i ≤ i + l.length
  | [], i => by simp [strGo]
  | [_], i => by
    rw [strGo]; split
    · omega
    · split <;> simp
  | c :: d :: t, i => by
    have h1 := strGo_le t (i + 2)
    have h2 := strGo_le (d :: t) (i + 1)
    simp only [List.length_cons] at h2 ⊢
    rw [strGo]
    split
    · omega
    · split <;> omega
theorem blkLen_le (l : List UInt8) : blkLen l ≤ l.length := by
  have := blkGo_le (l.drop 0) 0 0
  simpa [blkLen] using this
theorem strLen_le (l : List UInt8) (h : 0 < l.length) : strLen l ≤ l.length := by
  have := strGo_le (l.drop 1) 1
  unfold strLen; simp only [List.length_drop] at this; omega
theorem trimRightS_eq (l : List UInt8) : Lib.trimRightS l [32, 9] = l.take (trimLen l) ∧ trimLen l ≤ l.length ∧ (∀ c ∈ l.drop (trimLen l), isBl c = true) := by
  have hp : (fun c => [32, 9].contains c) = isBl := by
    funext c; unfold isBl
    by_cases h1 : c = 32
    · subst h1; rfl
    by_cases h2 : c = 9
    · subst h2; rfl
    simp [h1, h2]
  have e1 : Lib.trimRightS l [32, 9] = (l.reverse.dropWhile isBl).reverse := by
    unfold Lib.trimRightS; rw [hp]
  have e2 : l = (l.reverse.dropWhile isBl).reverse ++ (l.reverse.takeWhile isBl).reverse := by
    rw [← List.reverse_append, List.takeWhile_append_dropWhile, List.reverse_reverse]
  have e3 : trimLen l = (l.reverse.dropWhile isBl).reverse.length := by unfold trimLen; rw [e1]
  refine ⟨?_, ?_, ?_⟩
  · rw [e1, e3]
    generalize (l.reverse.dropWhile isBl).reverse = x at e2
    generalize (l.reverse.takeWhile isBl).reverse = y at e2
    rw [e2]; simp
  · rw [e3]
    generalize (l.reverse.dropWhile isBl).reverse = x at e2
    generalize (l.reverse.takeWhile isBl).reverse = y at e2
    rw [e2]; simp
  · intro c hc
    have hy : l.drop (trimLen l) = (l.reverse.takeWhile isBl).reverse := by
      rw [e3]
      generalize (l.reverse.dropWhile isBl).reverse = x at e2
      generalize (l.reverse.takeWhile isBl).reverse = y at e2
      rw [e2]; simp
    rw [hy] at hc
    have := List.mem_reverse.1 hc
    exact List.all_takeWhile (p := isBl) (l := l.reverse) |> List.all_eq_true.1 |> fun h => h c this

theorem ite_P {α : Type} {P : α → Prop} {c : Prop} [Decidable c] {a b : α} (ha : c → P a) (hb : ¬ c → P b) : P (if c then a else b) := by
  by_cases h : c
  · rw [if_pos h]; exact ha h
  · rw [if_neg h]; exact hb h
theorem readTok_P (P : Int × Nat × Int → Prop) (l : List UInt8)
    (p1 : l.take 2 == [35, 40] → P (2, 2, 0)) (p2 : l.take 2 == [44, 64] → P (4, 2, 0)) (p3 : l.take 2 == [35, 59] → P (4, 2, 0))
    (p4 : l.take 2 == [35, 124] → P (enK (blkLen l), blkLen l, enE (blkLen l) 4))
    (p5 : h0 l 40 → P (2, 1, 0)) (p6 : h0 l 41 → P (3, 1, 0)) (p7 : h0 l 39 → P (4, 1, 0)) (p8 : h0 l 96 → P (4, 1, 0)) (p9 : h0 l 44 → ¬ l.take 2 == [44, 64] → P (4, 1, 0))
    (p10 : h0 l 59 → P (5, trimLen l, 0)) (p11 : h0 l 34 → P (enK (strLen l), strLen l, enE (strLen l) 3))
    (p12 : ¬ l.take 2 == [35, 40] → ¬ l.take 2 == [35, 59] → ¬ l.take 2 == [35, 124] → ¬ h0 l 40 → ¬ h0 l 41 → ¬ h0 l 39 → ¬ h0 l 96 → ¬ h0 l 44 → ¬ h0 l 59 → ¬ h0 l 34 → P (1, atomLen l, 0)) : P (readTok l) := by
  unfold readTok
  refine ite_P p1 fun n1 => ite_P p2 fun n2 => ite_P p3 fun n3 => ite_P p4 fun n4 => ite_P p5 fun n5 => ite_P p6 fun n6 => ite_P p7 fun n7 => ite_P p8 fun n8 =>
    ite_P (fun h => p9 h n2) fun n9 => ite_P p10 fun n10 => ite_P p11 fun n11 => p12 n1 n3 n4 n5 n6 n7 n8 n9 n10 n11
theorem take2_len {l : List UInt8} {a b : UInt8} (h : l.take 2 == [a, b]) : 2 ≤ l.length := by
  have := congrArg List.length (beq_iff_eq.1 h); simp at this; omega
theorem h0_iff (c : UInt8) (t : List UInt8) (d : UInt8) : h0 (c :: t) (d.toNat : Int) = true ↔ c = d := by
  unfold h0; simp only [List.headD_cons, beq_iff_eq]
  constructor
  · intro h; exact UInt8.toNat_inj.1 (by omega)
  · rintro rfl; rfl
theorem atomGo_of {c : UInt8} {t : List UInt8} (hb : isBl c = false) (a : ¬ h0 (c :: t) 40) (b : ¬ h0 (c :: t) 41) (d : ¬ h0 (c :: t) 39) (e : ¬ h0 (c :: t) 96) (f : ¬ h0 (c :: t) 44) (g : ¬ h0 (c :: t) 59) (i : ¬ h0 (c :: t) 34) : atomGo c = true := by
  have a' : c ≠ 40 := fun x => a ((h0_iff c t 40).2 x)
  have b' : c ≠ 41 := fun x => b ((h0_iff c t 41).2 x)
  have d' : c ≠ 39 := fun x => d ((h0_iff c t 39).2 x)
  have e' : c ≠ 96 := fun x => e ((h0_iff c t 96).2 x)
  have f' : c ≠ 44 := fun x => f ((h0_iff c t 44).2 x)
  have g' : c ≠ 59 := fun x => g ((h0_iff c t 59).2 x)
  have i' : c ≠ 34 := fun x => i ((h0_iff c t 34).2 x)
  unfold isBl at hb
  simp at hb
  simp [atomGo, atomEnds, a', b', d', e', f', g', i', hb.1, hb.2]
theorem readTok_ok (c : UInt8) (t : List UInt8) (hb : isBl c = false) : (readTok (c :: t)).2.2 = 0 → 1 ≤ (readTok (c :: t)).2.1 ∧ (readTok (c :: t)).2.1 ≤ (c :: t).length := by
  refine readTok_P (fun r => r.2.2 = 0 → 1 ≤ r.2.1 ∧ r.2.1 ≤ (c :: t).length) (c :: t) ?_ ?_ ?_ ?_ ?_ ?_ ?_ ?_ ?_ ?_ ?_ ?_
  · intro h _; have := take2_len h; exact ⟨by decide, this⟩
  · intro h _; have := take2_len h; exact ⟨by decide, this⟩
  · intro h _; have := take2_len h; exact ⟨by decide, this⟩
  · intro _ h
    have := blkLen_le (c :: t)
    refine ⟨?_, this⟩
    show 1 ≤ blkLen (c :: t)
    by_cases h0 : blkLen (c :: t) = 0
    · simp [enE, h0] at h
    · omega
  · intro _ _; exact ⟨by decide, by simp⟩
  · intro _ _; exact ⟨by decide, by simp⟩
  · intro _ _; exact ⟨by decide, by simp⟩
  · intro _ _; exact ⟨by decide, by simp⟩
  · intro _ _ _; exact ⟨by decide, by simp⟩
  · intro h _
    have hc : c = 59 := (h0_iff c t 59).1 h
    have e := trimRightS_eq (c :: t)
    refine ⟨?_, e.2.1⟩
    show 1 ≤ trimLen (c :: t)
    by_cases h0 : trimLen (c :: t) = 0
    · have := e.2.2 c (by rw [h0]; simp)
      rw [hb] at this; cases this
    · omega
  · intro _ h
    have := strLen_le (c :: t) (by simp)
    refine ⟨?_, this⟩
    show 1 ≤ strLen (c :: t)
    by_cases h0 : strLen (c :: t) = 0
    · simp [enE, h0] at h
    · omega
  · intro _ _ _ n5 n6 n7 n8 n9 n10 n11 _
    refine ⟨?_, atomLen_le _⟩
    show 1 ≤ atomLen (c :: t)
    unfold atomLen
    rw [List.takeWhile_cons, if_pos (atomGo_of hb n5 n6 n7 n8 n9 n10 n11)]
    simp

/-- readLine: from the place a on, with the tokens acc so far. -/
def lineGo (l : List UInt8) : Nat → Nat → List Tok → List Tok × Int × Nat
  | 0, _, acc => (acc, 0, 0)
  | f + 1, a, acc =>
    if l.length ≤ a then (acc, 0, 0)
    else if (readTok (l.drop a)).2.2 = 0 then
      lineGo l f (skipB l (a + (readTok (l.drop a)).2.1)) (acc ++ [⟨(readTok (l.drop a)).1, (l.drop a).take (readTok (l.drop a)).2.1, a, ((readTok (l.drop a)).1 == 5) && endsEl acc⟩])
    else ([], (readTok (l.drop a)).2.2, a)
def lineRes (l : List UInt8) : List Tok × Int × Nat := lineGo l (l.length + 1) (skipB l 0) []

theorem lineGo_end (l : List UInt8) (f a : Nat) (acc : List Tok) (h : l.length ≤ a) : lineGo l f a acc = (acc, 0, 0) := by
  cases f with
  | zero => rfl
  | succ f => rw [lineGo, if_pos h]
theorem lineGo_bad (l : List UInt8) (f a : Nat) (acc : List Tok) (h : a < l.length) (hf : 0 < f) (he : (readTok (l.drop a)).2.2 ≠ 0) : lineGo l f a acc = ([], (readTok (l.drop a)).2.2, a) := by
  cases f with
  | zero => omega
  | succ f => rw [lineGo, if_neg (by omega), if_neg he]
theorem lineGo_on (l : List UInt8) (f a : Nat) (acc : List Tok) (h : a < l.length) (he : (readTok (l.drop a)).2.2 = 0) :
    lineGo l (f + 1) a acc = lineGo l f (skipB l (a + (readTok (l.drop a)).2.1)) (acc ++ [⟨(readTok (l.drop a)).1, (l.drop a).take (readTok (l.drop a)).2.1, a, ((readTok (l.drop a)).1 == 5) && endsEl acc⟩]) := by
  rw [lineGo, if_neg (by omega), if_pos he]
/-- Behind skipBlanks: the end, or no blank. -/
theorem skipB_at (l : List UInt8) (a : Nat) (h : skipB l a < l.length) : isBl (l[skipB l a]) = false := by
  have key : ∀ (m : List UInt8) (h : blN m < m.length), isBl m[blN m] = false := by
    intro m
    induction m with
    | nil => intro h; simp at h
    | cons c m ih =>
      intro h
      unfold blN at h ⊢
      cases hc : isBl c with
      | false => simp [hc]
      | true =>
        simp only [List.takeWhile_cons, hc, if_true, List.length_cons] at h ⊢
        exact ih (by unfold blN; omega)
  unfold skipB at h ⊢
  have := key (l.drop a) (by rw [List.length_drop]; omega)
  rw [List.getElem_drop] at this
  exact this
end Sc
end Go.Proofs.YtoieklacpkahbaaDoor
namespace Go.Proofs.YtoieklacpkahbaaDoor
open Go.RowKit
namespace Sc
/-- A text's lines. -/
def lns : List UInt8 → List (List UInt8)
  | [] => [[]]
  | c :: t => if c = 10 then [] :: lns t else match lns t with | [] => [[c]] | x :: xs => (c :: x) :: xs
theorem splitK_lns : ∀ (l : List UInt8) (k : Nat), Lib.count l [10] = k → Lib.splitK [10] 0 k l = lns l := by
  intro l
  induction l with
  | nil => intro k hk; subst hk; rfl
  | cons c t ih =>
    intro k hk
    by_cases hc : c = 10
    · subst hc
      rw [Lib.count_cons_eq] at hk
      subst hk
      have hi : Lib.index (10 :: t) [10] = 0 := by simp [Lib.index]
      rw [show 1 + Lib.count t [10] = Lib.count t [10] + 1 by omega, Lib.splitK, hi]
      simp [lns, ih _ rfl]
    · rw [Lib.count_cons_ne _ _ _ hc] at hk
      have h := ih k hk
      have hp : ([10] : List UInt8).isPrefixOf (c :: t) = false := by simp [List.isPrefixOf, Ne.symm hc]
      have hi : Lib.index (c :: t) [10] = if Lib.index t [10] == -1 then -1 else Lib.index t [10] + 1 := by
        rw [Lib.index, hp]; simp
      rw [lns, if_neg hc]
      cases k with
      | zero =>
        rw [Lib.splitK] at h
        rw [← h]; rfl
      | succ k =>
        rw [Lib.splitK] at h
        rw [Lib.splitK]
        by_cases hm : Lib.index t [10] = -1
        · rw [if_pos (by simpa using hm)] at h
          rw [← h, hi]; simp [hm]
        · have hg : 0 ≤ Lib.index t [10] := by
            have := Lib.index_ge t [10]; omega
          rw [if_neg (by simpa using hm)] at h
          rw [if_neg (by simpa using hm)] at hi
          rw [hi, ← h, if_neg (by simp; omega)]
          obtain ⟨i, hi2⟩ := Int.eq_ofNat_of_zero_le hg
          rw [hi2]
          have : ((i : Int) + 1).toNat = i + 1 := by omega
          rw [this]; simp
theorem splitB_lns (s : ByteArray) : (Lib.splitB ⟨#[10]⟩ 0 (Lib.countB s ⟨#[10]⟩) s).map (·.data.toList) = lns s.data.toList := by
  rw [Lib.splitB_data]; exact splitK_lns _ _ rfl

def shift (b : Nat) (t : Tok) : Tok := { t with place := t.place + b }
/-- readTokens: from a line on, that begins at b. -/
def toksGo : List (List UInt8) → Nat → List Tok → List Tok × Int × Nat
  | [], _, acc => (acc, 0, 0)
  | l :: ls, b, acc => if (lineRes l).2.1 = 0 then toksGo ls (b + l.length + 1) (acc ++ (lineRes l).1.map (shift b)) else ([], (lineRes l).2.1, b + (lineRes l).2.2)
def toksRes (l : List UInt8) : List Tok × Int × Nat := toksGo (lns l) 0 []

/-- Tokens of a line lie in it. -/
def InLine (l : List UInt8) (ts : List Tok) : Prop := ∀ t ∈ ts, 0 ≤ t.place ∧ t.place < l.length
theorem lineGo_inv (l : List UInt8) : ∀ (f a : Nat) (acc : List Tok), InLine l acc → acc.length ≤ a → a ≤ l.length → (a < l.length → ∀ h : a < l.length, isBl l[a] = false) →
    InLine l (lineGo l f a acc).1 ∧ (lineGo l f a acc).1.length ≤ l.length ∧ (lineGo l f a acc).2.2 ≤ l.length := by
  intro f
  induction f with
  | zero => intro a acc h1 h2 h3 _; exact ⟨h1, by simp only [lineGo]; omega, by simp [lineGo]⟩
  | succ f ih =>
    intro a acc h1 h2 h3 h4
    by_cases ha : l.length ≤ a
    · rw [lineGo_end _ _ _ _ ha]; exact ⟨h1, by simp only; omega, by simp⟩
    · by_cases he : (readTok (l.drop a)).2.2 = 0
      · rw [lineGo_on _ _ _ _ (by omega) he]
        have hal : a < l.length := by omega
        have hok : 1 ≤ (readTok (l.drop a)).2.1 ∧ a + (readTok (l.drop a)).2.1 ≤ l.length := by
          have hd := List.drop_eq_getElem_cons hal
          have := readTok_ok l[a] (l.drop (a + 1)) (h4 hal hal)
          rw [← hd] at this
          have t := this he
          rw [List.length_drop] at t
          omega
        have hsk := skipB_le l (a + (readTok (l.drop a)).2.1) hok.2
        refine ih _ _ ?_ (by simp; omega) hsk.2 (fun h _ => skipB_at _ _ h)
        intro t ht
        rcases List.mem_append.1 ht with ht | ht
        · exact h1 t ht
        · simp at ht; subst ht; simp; omega
      · rw [lineGo_bad _ _ _ _ (by omega) (by omega) he]; exact ⟨fun t ht => by simp at ht, by simp, by simp only; omega⟩
theorem lineRes_inv (l : List UInt8) : InLine l (lineRes l).1 ∧ (lineRes l).1.length ≤ l.length ∧ (lineRes l).2.2 ≤ l.length :=
  lineGo_inv l _ _ _ (fun t ht => by simp at ht) (by simp) (skipB_le l 0 (by simp)).2 (fun h _ => skipB_at _ _ h)

theorem lns_ne (l : List UInt8) : lns l ≠ [] := by
  cases l with
  | nil => simp [lns]
  | cons c t => rw [lns]; split <;> (try split) <;> simp
/-- How long the lines are, together. -/
def tot : List (List UInt8) → Nat
  | [] => 0
  | l :: ls => l.length + 1 + tot ls
theorem tot_lns (l : List UInt8) : tot (lns l) = l.length + 1 := by
  induction l with
  | nil => rfl
  | cons c t ih =>
    rw [lns]
    split
    · simp [tot, ih]; omega
    · cases h : lns t with
      | nil => exact absurd h (lns_ne t)
      | cons x xs => rw [h] at ih; simp [tot] at ih ⊢; omega
theorem lns_ascii (l : List UInt8) (h : Ascii l) : ∀ x ∈ lns l, Ascii x := by
  have key : ∀ (l : List UInt8), (∀ b ∈ l, b.toNat < 128) → ∀ x ∈ lns l, ∀ b ∈ x, b.toNat < 128 := by
    intro l
    induction l with
    | nil => intro _ x hx b hb; simp [lns] at hx; subst hx; simp at hb
    | cons c t ih =>
      intro h x hx b hb
      have h1 := ih (fun b hb => h b (List.mem_cons_of_mem _ hb))
      rw [lns] at hx
      split at hx
      · rcases List.mem_cons.1 hx with rfl | hx
        · simp at hb
        · exact h1 x hx b hb
      · cases hl : lns t with
        | nil => exact absurd hl (lns_ne t)
        | cons y ys =>
          rw [hl] at hx h1
          rcases List.mem_cons.1 hx with rfl | hx
          · rcases List.mem_cons.1 hb with rfl | hb
            · exact h b (List.mem_cons_self ..)
            · exact h1 y (List.mem_cons_self ..) b hb
          · exact h1 x (List.mem_cons_of_mem _ hx) b hb
  intro x hx j b hb
  exact key l (fun b hb => by obtain ⟨j, hj⟩ := List.getElem?_of_mem hb; exact h j b hj) x hx b (List.mem_of_getElem? hb)
end Sc
end Go.Proofs.YtoieklacpkahbaaDoor
namespace Go.Proofs.YtoieklacpkahbaaDoor
open Go.RowKit
namespace Sc
/-- leadsElement: may the prefix p stand ahead of t? -/
def leadsB (p t : Tok) : Bool := if t.kind = 3 then false else if t.kind = 5 then false else if t.kind = 1 then (!(p.text == [44]) || !(t.text.headD 0 == 64)) else true
def leads (p : Tok) : List Tok → Bool
  | [] => false
  | t :: _ => leadsB p t
/-- checkLists: from a token on, with the places of the lists that are open. -/
def listsGo : List Tok → List Int → Int × Int
  | [], st => match st.getLast? with | some p => (5, p) | none => (0, 0)
  | t :: ts, st =>
    if t.kind = 2 then (if st.length = 32 then (8, t.place) else listsGo ts (st ++ [t.place]))
    else if t.kind = 3 then (if st.length = 0 then (6, t.place) else listsGo ts st.dropLast)
    else if t.kind = 4 then (if leads t ts then listsGo ts st else (7, t.place))
    else listsGo ts st
def listsRes (ts : List Tok) : Int × Int := listsGo ts []
end Sc
end Go.Proofs.YtoieklacpkahbaaDoor
namespace Go.Proofs.YtoieklacpkahbaaDoor
open Go.RowKit
namespace Sc
/-- A space, a tab, a newline. -/
def bl3 (c : UInt8) : Bool := c == 32 || c == 9 || c == 10
theorem bl3_of {c : UInt8} (h : isBl c = true) : bl3 c = true := by
  unfold isBl at h; unfold bl3; rw [h]; rfl
/-- From a up to b there is nothing but blanks. -/
def Bls (l : List UInt8) (a b : Nat) : Prop := a ≤ b ∧ b ≤ l.length ∧ ∀ j (h : j < l.length), a ≤ j → j < b → bl3 l[j] = true
theorem Bls.refl {l : List UInt8} {a : Nat} (h : a ≤ l.length) : Bls l a a := ⟨Nat.le_refl _, h, fun j _ h1 h2 => by omega⟩
theorem Bls.trans {l : List UInt8} {a b c : Nat} (h : Bls l a b) (k : Bls l b c) : Bls l a c :=
  ⟨Nat.le_trans h.1 k.1, k.2.1, fun j hj h1 h2 => if hb : j < b then h.2.2 j hj h1 hb else k.2.2 j hj (by omega) h2⟩
/-- The tokens, one behind the other, from a up to b: nothing but blanks between. -/
def Cov (l : List UInt8) : List Tok → Nat → Nat → Prop
  | [], a, b => Bls l a b
  | t :: ts, a, b => ∃ p : Nat, t.place = p ∧ Bls l a p ∧ 0 < t.text.length ∧ p + t.text.length ≤ l.length ∧ t.text = (l.drop p).take t.text.length ∧ Cov l ts (p + t.text.length) b
theorem Cov.append {l : List UInt8} {xs ys : List Tok} {a b c : Nat} (h : Cov l xs a b) (k : Cov l ys b c) : Cov l (xs ++ ys) a c := by
  induction xs generalizing a with
  | nil =>
    cases ys with
    | nil => exact Bls.trans h k
    | cons t ts =>
      obtain ⟨p, h1, h2, h3⟩ := k
      exact ⟨p, h1, Bls.trans h h2, h3⟩
  | cons t xs ih =>
    obtain ⟨p, h1, h2, h3, h4, h5, h6⟩ := h
    exact ⟨p, h1, h2, h3, h4, h5, ih h6⟩
theorem Cov.le {l : List UInt8} {ts : List Tok} {a b : Nat} (h : Cov l ts a b) : a ≤ b ∧ b ≤ l.length := by
  induction ts generalizing a with
  | nil => exact ⟨h.1, h.2.1⟩
  | cons t ts ih =>
    obtain ⟨p, _, h2, _, _, _, h6⟩ := h
    have := ih h6
    have := h2.1
    omega
theorem skipB_bls (l : List UInt8) (a : Nat) (h : a ≤ l.length) : Bls l a (skipB l a) := by
  have hle := skipB_le l a h
  refine ⟨hle.1, hle.2, fun j hj h1 h2 => ?_⟩
  apply bl3_of
  unfold skipB blN at h2
  have hm : l[j] ∈ (l.drop a).takeWhile isBl := by
    have hjl : j - a < ((l.drop a).takeWhile isBl).length := by omega
    have e : ((l.drop a).takeWhile isBl)[j - a] = l[j] := by
      have hp : (l.drop a).takeWhile isBl <+: l.drop a := List.takeWhile_prefix _
      rw [hp.getElem hjl, List.getElem_drop]
      congr 1
      omega
    rw [← e]; exact List.getElem_mem hjl
  exact List.all_eq_true.1 List.all_takeWhile _ hm
theorem lineGo_cov (l : List UInt8) : ∀ (f a : Nat) (acc : List Tok), l.length < f + a → Cov l acc 0 a → (∀ h : a < l.length, isBl l[a] = false) → (lineGo l f a acc).2.1 = 0 → Cov l (lineGo l f a acc).1 0 l.length := by
  intro f
  induction f with
  | zero => intro a acc hf h1 _ _; have := h1.le; omega
  | succ f ih =>
    intro a acc hf h1 h4 he0
    have hle := h1.le
    by_cases ha : l.length ≤ a
    · rw [lineGo_end _ _ _ _ ha]
      have : a = l.length := by omega
      rw [← this]; exact h1
    · by_cases he : (readTok (l.drop a)).2.2 = 0
      · rw [lineGo_on _ _ _ _ (by omega) he] at he0 ⊢
        have hal : a < l.length := by omega
        have hok : 1 ≤ (readTok (l.drop a)).2.1 ∧ a + (readTok (l.drop a)).2.1 ≤ l.length := by
          have hd := List.drop_eq_getElem_cons hal
          have := readTok_ok l[a] (l.drop (a + 1)) (h4 hal)
          rw [← hd] at this
          have t := this he
          rw [List.length_drop] at t
          omega
        have hsk := skipB_le l (a + (readTok (l.drop a)).2.1) hok.2
        refine ih _ _ (by omega) (h1.append ?_) (fun h => skipB_at _ _ h) he0
        have hlen : ((l.drop a).take (readTok (l.drop a)).2.1).length = (readTok (l.drop a)).2.1 := by rw [List.length_take, List.length_drop]; omega
        refine ⟨a, rfl, Bls.refl (by omega), ?_, ?_, ?_, ?_⟩
        · show 0 < ((l.drop a).take _).length; omega
        · show a + ((l.drop a).take _).length ≤ _; omega
        · show (l.drop a).take _ = (l.drop a).take ((l.drop a).take _).length; rw [hlen]
        · show Bls l (a + ((l.drop a).take _).length) _; rw [hlen]; exact skipB_bls l _ hok.2
      · rw [lineGo_bad _ _ _ _ (by omega) (by omega) he] at he0
        exact absurd he0 he
theorem lineRes_cov (l : List UInt8) (h : (lineRes l).2.1 = 0) : Cov l (lineRes l).1 0 l.length :=
  lineGo_cov l _ _ _ (by omega) (skipB_bls l 0 (by simp)) (fun h => skipB_at _ _ h) h

/-- A piece of a text. -/
theorem Bls.shift {pre l suf : List UInt8} {a b : Nat} (h : Bls l a b) : Bls (pre ++ l ++ suf) (pre.length + a) (pre.length + b) := by
  refine ⟨by have := h.1; omega, by have := h.2.1; simp; omega, fun j hj h1 h2 => ?_⟩
  have h3 := h.2.1
  have := h.2.2 (j - pre.length) (by omega) (by omega) (by omega)
  rw [List.getElem_append_left (by simp; omega), List.getElem_append_right (by omega)]
  exact this
theorem Cov.shift {pre l suf : List UInt8} {ts : List Tok} {a b : Nat} (h : Cov l ts a b) : Cov (pre ++ l ++ suf) (ts.map (Sc.shift pre.length)) (pre.length + a) (pre.length + b) := by
  induction ts generalizing a with
  | nil => exact Bls.shift h
  | cons t ts ih =>
    obtain ⟨p, h1, h2, h3, h4, h5, h6⟩ := h
    refine ⟨pre.length + p, ?_, Bls.shift h2, h3, ?_, ?_, ?_⟩
    · show t.place + pre.length = _; rw [h1]; omega
    · show pre.length + p + t.text.length ≤ _; simp; omega
    · show t.text = ((pre ++ l ++ suf).drop (pre.length + p)).take t.text.length
      rw [List.append_assoc, ← List.drop_drop, List.drop_left, List.drop_append_of_le_length (by omega), List.take_append_of_le_length (by rw [List.length_drop]; omega)]
      exact h5
    · have := ih h6
      show Cov _ _ (pre.length + p + t.text.length) _
      rw [Nat.add_assoc]; exact this
theorem lns_form : ∀ (m l : List UInt8) (ls : List (List UInt8)), lns m = l :: ls → (ls = [] ∧ m = l) ∨ ∃ rest, m = l ++ 10 :: rest ∧ lns rest = ls := by
  intro m
  induction m with
  | nil => intro l ls h; simp [lns] at h; exact .inl ⟨h.2, h.1.symm⟩
  | cons c t ih =>
    intro l ls h
    rw [lns] at h
    by_cases hc : c = 10
    · rw [if_pos hc] at h
      injection h with h1 h2
      subst h1 hc
      exact .inr ⟨t, rfl, h2⟩
    · rw [if_neg hc] at h
      cases hl : lns t with
      | nil => exact absurd hl (lns_ne t)
      | cons x xs =>
        rw [hl] at h
        injection h with h1 h2
        subst h1 h2
        rcases ih x xs hl with ⟨h3, h4⟩ | ⟨rest, h3, h4⟩
        · exact .inl ⟨h3, by rw [h4]⟩
        · exact .inr ⟨rest, by rw [h3]; rfl, h4⟩
theorem toksGo_cov : ∀ (ls : List (List UInt8)) (pre m : List UInt8) (acc : List Tok), lns m = ls → Cov (pre ++ m) acc 0 pre.length → (toksGo ls pre.length acc).2.1 = 0 → Cov (pre ++ m) (toksGo ls pre.length acc).1 0 (pre ++ m).length := by
  intro ls
  induction ls with
  | nil => intro pre m acc h; exact absurd h (lns_ne m)
  | cons l ls ih =>
    intro pre m acc h hc he
    rw [toksGo] at he ⊢
    by_cases h0 : (lineRes l).2.1 = 0
    · rw [if_pos h0] at he ⊢
      have hl := lineRes_cov l h0
      rcases lns_form m l ls h with ⟨h1, h2⟩ | ⟨rest, h1, h2⟩
      · subst h1 h2
        have := Cov.shift (pre := pre) (suf := []) hl
        rw [List.append_nil, Nat.add_zero] at this
        rw [List.length_append]
        exact hc.append this
      · have hs := Cov.shift (pre := pre) (suf := 10 :: rest) hl
        rw [List.append_assoc, ← h1, Nat.add_zero] at hs
        have hb : Bls (pre ++ m) (pre.length + l.length) (pre.length + l.length + 1) := by
          refine ⟨by omega, by rw [h1]; simp; omega, fun j hj h3 h4 => ?_⟩
          have e : j = pre.length + l.length := by omega
          subst e
          have : (pre ++ m)[pre.length + l.length]? = some 10 := by
            rw [h1, List.getElem?_append_right (by omega), Nat.add_sub_cancel_left, List.getElem?_append_right (by omega), Nat.sub_self]; rfl
          rw [List.getElem?_eq_getElem hj] at this
          injection this with this
          rw [this]; rfl
        have hfull := (hc.append hs).append (ys := []) hb
        rw [List.append_nil] at hfull
        have e1 : pre ++ m = (pre ++ l ++ [10]) ++ rest := by rw [h1]; simp
        have e2 : pre.length + l.length + 1 = (pre ++ l ++ [10]).length := by simp; omega
        rw [e2] at hfull he ⊢
        rw [e1] at hfull ⊢
        exact ih (pre ++ l ++ [10]) rest _ h2 hfull he
    · rw [if_neg h0] at he
      exact absurd he h0
theorem toksRes_cov (l : List UInt8) (h : (toksRes l).2.1 = 0) : Cov l (toksRes l).1 0 l.length :=
  toksGo_cov (lns l) [] l [] rfl (Bls.refl (by simp)) h
/-- What covers a text has no empty token, and no more tokens than bytes. -/
theorem Cov.pos {l : List UInt8} {ts : List Tok} {a b : Nat} (h : Cov l ts a b) : (∀ t ∈ ts, 0 < t.text.length) ∧ ts.length + a ≤ b := by
  induction ts generalizing a with
  | nil => exact ⟨fun t ht => by simp at ht, by have := h.1; simpa using this⟩
  | cons t ts ih =>
    obtain ⟨p, h1, h2, h3, h4, h5, h6⟩ := h
    have i := ih h6
    refine ⟨fun x hx => ?_, ?_⟩
    · rcases List.mem_cons.1 hx with rfl | hx
      · exact h3
      · exact i.1 x hx
    · have := h2.1
      have := i.2
      simp only [List.length_cons]; omega

/-- Scan. -/
def scanRes (l : List UInt8) : List Tok × Int × Int :=
  if 4096 < l.length then ([], 1, 0)
  else if 0 ≤ strangeAt l then ([], 2, strangeAt l)
  else if (toksRes l).2.1 ≠ 0 then ([], (toksRes l).2.1, (toksRes l).2.2)
  else if (listsRes (toksRes l).1).1 ≠ 0 then ([], (listsRes (toksRes l).1).1, (listsRes (toksRes l).1).2)
  else ((toksRes l).1, 0, 0)

theorem strangeI_neg : ∀ (l : List UInt8) (i : Nat), strangeI l i < 0 → ∀ c ∈ l, strange c = false := by
  intro l
  induction l with
  | nil => intro i _ c hc; simp at hc
  | cons x l ih =>
    intro i h c hc
    rw [strangeI] at h
    cases hx : strange x with
    | true => rw [hx] at h; simp at h; omega
    | false =>
      rw [hx] at h
      rcases List.mem_cons.1 hc with rfl | hc
      · exact hx
      · exact ih (i + 1) (by simpa using h) c hc
theorem strange_ascii {c : UInt8} (h : strange c = false) : c.toNat < 128 := by
  unfold strange at h
  by_cases h9 : c = 9
  · subst h9; decide
  by_cases h10 : c = 10
  · subst h10; decide
  simp [h9, h10] at h
  omega
theorem ascii_of_strange (l : List UInt8) (h : strangeAt l < 0) : Ascii l := fun j b hb =>
  strange_ascii (strangeI_neg l 0 (by simpa [strangeAt] using h) b (List.mem_of_getElem? hb))
theorem strangeAt_le (l : List UInt8) : -1 ≤ strangeAt l ∧ strangeAt l ≤ l.length := by
  have key : ∀ (l : List UInt8) (i : Nat), -1 ≤ strangeI l i ∧ strangeI l i ≤ i + l.length := by
    intro l
    induction l with
    | nil => intro i; simp [strangeI]
    | cons c l ih =>
      intro i
      rw [strangeI]
      have := ih (i + 1)
      simp only [List.length_cons]
      split <;> omega
  have := key l 0
  simpa [strangeAt] using this
end Sc
end Go.Proofs.YtoieklacpkahbaaDoor
