/- Plain functions: what package scan computes, on lists of bytes. No program here. -/
import Derived.WalkKit
import Derived.Lib.Strings
import Derived.Lib.IndexAny
import Derived.Shelf.Strings.SlTrimAscii
namespace Go.Proofs.YtigdfhcmhidhbaaDoor
open Go.RowKit
theorem hide {p : Prop} (h : p) : Hid p := h
theorem unhide {p : Prop} (h : Hid p) : p := h
namespace Sc

/-- A blank within a line. -/
def isBl (c : UInt8) : Bool := c == 32 || c == 9
/-- How many blanks a list begins with. -/
def blN (l : List UInt8) : Nat := (l.takeWhile isBl).length
/-- skipBlanks. -/
def skipB (l : List UInt8) (a : Nat) : Nat := a + blN (l.drop a)

theorem blN_le (l : List UInt8) : blN l ≤ l.length := by
  unfold blN; exact (List.takeWhile_prefix _).length_le
theorem skipB_le (l : List UInt8) (a : Nat) (h : a ≤ l.length) : a ≤ skipB l a ∧ skipB l a ≤ l.length := by
  unfold skipB; have := blN_le (l.drop a); simp at this; omega
theorem skipB_hit (l : List UInt8) (a : Nat) (h : a < l.length) (hb : isBl l[a] = true) : skipB l a = skipB l (a + 1) := by
  unfold skipB blN
  rw [List.drop_eq_getElem_cons h, List.takeWhile_cons, if_pos hb]; simp; omega
theorem skipB_miss (l : List UInt8) (a : Nat) (h : a < l.length) (hb : isBl l[a] = false) : skipB l a = a := by
  unfold skipB blN
  rw [List.drop_eq_getElem_cons h, List.takeWhile_cons, if_neg (by simp [hb])]; simp
theorem skipB_end (l : List UInt8) (a : Nat) (h : l.length ≤ a) : skipB l a = a := by
  unfold skipB blN; rw [List.drop_eq_nil_of_le h]; simp
/-- The test that the program asks. -/
theorem ix_bl (c : UInt8) : (0 ≤ Lib.indexByte [32, 9] c) ↔ isBl c = true := by
  unfold isBl
  by_cases h1 : c = 32
  · subst h1; decide
  by_cases h2 : c = 9
  · subst h2; decide
  · simp [Lib.indexByte, h1, h2, Ne.symm h1, Ne.symm h2]
def blIx (c : UInt8) : Int := Lib.indexByte [32, 9] c
theorem blIx_yes {c : UInt8} (h : isBl c = true) : 0 ≤ blIx c := (ix_bl c).2 h
theorem blIx_no {c : UInt8} (h : isBl c = false) : blIx c < 0 := by
  have := ix_bl c; unfold blIx; rw [h] at this; simp at this; exact this

/-- stringLength, from the i-th byte on. -/
def strGo : List UInt8 → Nat → Nat
  | [], _ => 0
  | [c], i => if c == 92 then 0 else if c == 34 then i + 1 else 0
  | c :: d :: t, i => if c == 92 then strGo t (i + 2) else if c == 34 then i + 1 else strGo (d :: t) (i + 1)

theorem strGo_hit (l : List UInt8) (k : Nat) (h : k < l.length) (h1 : l[k] = 34) : strGo (l.drop k) k = k + 1 := by
  rw [List.drop_eq_getElem_cons h, h1]
  cases l.drop (k + 1) <;> simp [strGo]
theorem strGo_esc (l : List UInt8) (k : Nat) (h : k < l.length) (h1 : l[k] = 92) : strGo (l.drop k) k = strGo (l.drop (k + 2)) (k + 2) := by
  rw [List.drop_eq_getElem_cons h, h1]
  have e : l.drop (k + 2) = (l.drop (k + 1)).drop 1 := by rw [List.drop_drop]
  rw [e]
  cases l.drop (k + 1) <;> simp [strGo]
theorem strGo_on (l : List UInt8) (k : Nat) (h : k < l.length) (h1 : l[k] ≠ 92) (h2 : l[k] ≠ 34) : strGo (l.drop k) k = strGo (l.drop (k + 1)) (k + 1) := by
  rw [List.drop_eq_getElem_cons h]
  cases l.drop (k + 1) <;> simp [strGo, h1, h2]
theorem strGo_end (l : List UInt8) (k : Nat) (h : l.length ≤ k) : strGo (l.drop k) k = 0 := by
  rw [List.drop_eq_nil_of_le h]; rfl
def strLen (l : List UInt8) : Nat := strGo (l.drop 1) 1

/-- blockLength, from the i-th byte on; o: how many are open. -/
def blkGo : List UInt8 → Nat → Int → Nat
  | a :: b :: t, i, o =>
    if a = 35 ∧ b = 124 then (if o + 1 = 0 then i + 2 else blkGo t (i + 2) (o + 1))
    else if a = 124 ∧ b = 35 then (if o - 1 = 0 then i + 2 else blkGo t (i + 2) (o - 1))
    else if o = 0 then i + 1 else blkGo (b :: t) (i + 1) o
  | _, _, _ => 0

theorem two_cons (l : List UInt8) (k : Nat) (h : k + 2 ≤ l.length) : l.drop k = l[k] :: l[k + 1] :: l.drop (k + 2) := by
  rw [List.drop_eq_getElem_cons (by omega), List.drop_eq_getElem_cons (by omega)]
theorem blkGo_step (l : List UInt8) (k : Nat) (o : Int) (h : k + 2 ≤ l.length) : blkGo (l.drop k) k o =
    (if l[k] = 35 ∧ l[k + 1] = 124 then (if o + 1 = 0 then k + 2 else blkGo (l.drop (k + 2)) (k + 2) (o + 1))
    else if l[k] = 124 ∧ l[k + 1] = 35 then (if o - 1 = 0 then k + 2 else blkGo (l.drop (k + 2)) (k + 2) (o - 1))
    else if o = 0 then k + 1 else blkGo (l.drop (k + 1)) (k + 1) o) := by
  rw [two_cons l k h, List.drop_eq_getElem_cons (i := k + 1) (by omega), blkGo]
theorem blkGo_end (l : List UInt8) (k : Nat) (o : Int) (h : l.length < k + 2) : blkGo (l.drop k) k o = 0 := by
  match hd : l.drop k with
  | [] => rfl
  | [_] => rfl
  | _ :: _ :: _ => have := congrArg List.length hd; simp at this; omega
def blkLen (l : List UInt8) : Nat := blkGo (l.drop 0) 0 0

/-- A byte that may not stand in a text. -/
def strange (c : UInt8) : Bool := !(c == 9) && !(c == 10) && (decide (c.toNat < 32) || decide (126 < c.toNat))
/-- strangeByte, from the i-th byte on. -/
def strangeI : List UInt8 → Nat → Int
  | [], _ => -1
  | c :: t, i => if strange c then i else strangeI t (i + 1)
theorem strangeI_hit (l : List UInt8) (k : Nat) (h : k < l.length) (h1 : strange l[k] = true) : strangeI (l.drop k) k = k := by
  rw [List.drop_eq_getElem_cons h]; simp [strangeI, h1]
theorem strangeI_on (l : List UInt8) (k : Nat) (h : k < l.length) (h1 : strange l[k] = false) : strangeI (l.drop k) k = strangeI (l.drop (k + 1)) (k + 1) := by
  rw [List.drop_eq_getElem_cons h]; simp [strangeI, h1]
theorem strangeI_end (l : List UInt8) (k : Nat) (h : l.length ≤ k) : strangeI (l.drop k) k = -1 := by
  rw [List.drop_eq_nil_of_le h]; rfl
def strangeAt (l : List UInt8) : Int := strangeI (l.drop 0) 0

/-- What ends a plain atom. -/
def atomEnds : List UInt8 := [32, 9, 40, 41, 39, 44, 34, 59, 96]
def atomIx (l : List UInt8) : Int := Lib.indexAny l atomEnds
def atomGo (c : UInt8) : Bool := !(atomEnds.contains c)
def atomLen (l : List UInt8) : Nat := (l.takeWhile atomGo).length
theorem atomIx_len (l : List UInt8) : (0 ≤ atomIx l → (atomLen l : Int) = atomIx l) ∧ (atomIx l < 0 → atomIx l = -1 ∧ atomLen l = l.length) := by
  unfold atomIx atomLen
  induction l with
  | nil => simp [Lib.indexAny]
  | cons b l ih =>
    have hg := Lib.indexAny_ge atomEnds l
    rw [Lib.indexAny, List.takeWhile_cons]
    cases hb : atomEnds.contains b with
    | true =>
      have hc : atomGo b = false := by unfold atomGo; rw [hb]; rfl
      rw [hc]; simp
    | false =>
      have hc : atomGo b = true := by unfold atomGo; rw [hb]; rfl
      rw [hc]
      simp only [if_true, Bool.false_eq_true, if_false, List.length_cons]
      by_cases h1 : Lib.indexAny l atomEnds = -1
      · have := ih.2 (by omega)
        simp [h1, this.2]
      · have h2 := ih.1 (by omega)
        rw [if_neg (by simpa using h1)]
        refine ⟨fun _ => by push_cast; omega, fun h => by omega⟩
/-- endedAtom. -/
def enK (n : Nat) : Int := if n = 0 then 0 else 1
def enE (n : Nat) (m : Int) : Int := if n = 0 then m else 0
def trimLen (l : List UInt8) : Nat := (Lib.trimRightS l [32, 9]).length
def h0 (l : List UInt8) (n : Int) : Bool := (((l.headD 0).toNat : Int) == n)
/-- readToken: the kind, the length, the error. -/
def readTok (l : List UInt8) : Int × Nat × Int :=
  if l.take 2 == [35, 40] then (2, 2, 0)
  else if l.take 2 == [44, 64] then (4, 2, 0)
  else if l.take 2 == [35, 59] then (4, 2, 0)
  else if l.take 2 == [35, 124] then (enK (blkLen l), blkLen l, enE (blkLen l) 4)
  else if h0 l 40 then (2, 1, 0)
  else if h0 l 41 then (3, 1, 0)
  else if h0 l 39 then (4, 1, 0)
  else if h0 l 96 then (4, 1, 0)
  else if h0 l 44 then (4, 1, 0)
  else if h0 l 59 then (5, trimLen l, 0)
  else if h0 l 34 then (enK (strLen l), strLen l, enE (strLen l) 3)
  else (1, atomLen l, 0)
/-- A text of ASCII bytes alone. -/
def Ascii (l : List UInt8) : Prop := ∀ (j : Nat) b, l[j]? = some b → b.toNat < 128
theorem lget (s : ByteArray) (k : Nat) (h : k < s.size) : s.data.toList[k]'(by simpa using h) = s[k] := rfl
theorem lsize (s : ByteArray) : s.data.toList.length = s.size := by simp
theorem take2 (s : ByteArray) : (s.extract 0 (min 2 (s.size : Int)).toNat).toList = s.data.toList.take 2 := by
  rw [Lib.extract_toList]
  have : (min 2 (s.size : Int)).toNat - 0 = min 2 s.size := by omega
  rw [this, List.drop_zero, ← lsize s, ← List.take_take, List.take_length]
theorem head0 (s : ByteArray) (h : 0 < s.size) (n : Int) : h0 s.data.toList n = ((s[0].toNat : Int) == n) := by
  unfold h0
  have : s.data.toList.headD 0 = s[0] := by
    rw [← List.drop_zero (l := s.data.toList), List.drop_eq_getElem_cons (by rw [lsize]; exact h)]
    rfl
  rw [this]
theorem strange_yes {c : UInt8} (h9 : ¬ (c.toNat : Int) = 9) (h10 : ¬ (c.toNat : Int) = 10) (h : (c.toNat : Int) < 32 ∨ 126 < (c.toNat : Int)) : strange c = true := by
  have a : c ≠ 9 := fun e => h9 (by rw [e]; rfl)
  have b : c ≠ 10 := fun e => h10 (by rw [e]; rfl)
  simp [strange, a, b]; omega
theorem strange_no {c : UInt8} (h : (c.toNat : Int) = 9 ∨ (c.toNat : Int) = 10 ∨ (32 ≤ (c.toNat : Int) ∧ (c.toNat : Int) ≤ 126)) : strange c = false := by
  rcases h with h | h | h
  · have a : c = 9 := UInt8.toNat_inj.1 (by show c.toNat = 9; omega)
    rw [a]; rfl
  · have a : c = 10 := UInt8.toNat_inj.1 (by show c.toNat = 10; omega)
    rw [a]; rfl
  · simp [strange]; intros; omega
theorem two_list (s : ByteArray) (k : Nat) (h : k + 2 ≤ s.size) : (s.extract k (k + 2)).toList = [s[k], s[k + 1]] := by
  rw [Lib.extract_toList, two_cons _ _ (by rw [lsize]; exact h)]
  simp [show k + 2 - k = 2 by omega]
  exact ⟨rfl, rfl⟩
theorem two_eq {s : ByteArray} {k : Nat} (h : k + 2 ≤ s.size) {a b : UInt8} (e : ((s.extract k (k + 2)).toList == [a, b]) = true) : s[k] = a ∧ s[k + 1] = b := by
  rw [two_list s k h] at e; simpa using e
theorem two_ne {s : ByteArray} {k : Nat} (h : k + 2 ≤ s.size) {a b : UInt8} (e : ((s.extract k (k + 2)).toList == [a, b]) = false) : ¬ (s[k] = a ∧ s[k + 1] = b) := by
  rw [two_list s k h] at e; simpa using e
theorem blk_step {s : ByteArray} {k : Nat} {p : Int} (h : k + 2 ≤ s.size) : blkGo (s.data.toList.drop k) k p =
    (if s[k] = 35 ∧ s[k + 1] = 124 then (if p + 1 = 0 then k + 2 else blkGo (s.data.toList.drop (k + 2)) (k + 2) (p + 1))
    else if s[k] = 124 ∧ s[k + 1] = 35 then (if p - 1 = 0 then k + 2 else blkGo (s.data.toList.drop (k + 2)) (k + 2) (p - 1))
    else if p = 0 then k + 1 else blkGo (s.data.toList.drop (k + 1)) (k + 1) p) := blkGo_step _ k p (by rw [lsize]; exact h)
theorem blk1 {s : ByteArray} {k : Nat} {p : Int} (h : k + 2 ≤ s.size) (t : ((s.extract k (k + 2)).toList == [35, 124]) = true) (hp : (p + 1 == 0) = true) : blkGo (s.data.toList.drop k) k p = k + 2 := by
  rw [blk_step h, if_pos (two_eq h t), if_pos (by simpa using hp)]
theorem blk2 {s : ByteArray} {k : Nat} {p : Int} (h : k + 2 ≤ s.size) (t : ((s.extract k (k + 2)).toList == [35, 124]) = true) (hp : (p + 1 == 0) = false) : blkGo (s.data.toList.drop k) k p = blkGo (s.data.toList.drop (k + 2)) (k + 2) (p + 1) := by
  rw [blk_step h, if_pos (two_eq h t), if_neg (by simpa using hp)]
theorem blk3 {s : ByteArray} {k : Nat} {p : Int} (h : k + 2 ≤ s.size) (n : ((s.extract k (k + 2)).toList == [35, 124]) = false) (t : ((s.extract k (k + 2)).toList == [124, 35]) = true) (hp : (p - 1 == 0) = true) : blkGo (s.data.toList.drop k) k p = k + 2 := by
  rw [blk_step h, if_neg (two_ne h n), if_pos (two_eq h t), if_pos (by simpa using hp)]
theorem blk4 {s : ByteArray} {k : Nat} {p : Int} (h : k + 2 ≤ s.size) (n : ((s.extract k (k + 2)).toList == [35, 124]) = false) (t : ((s.extract k (k + 2)).toList == [124, 35]) = true) (hp : (p - 1 == 0) = false) : blkGo (s.data.toList.drop k) k p = blkGo (s.data.toList.drop (k + 2)) (k + 2) (p - 1) := by
  rw [blk_step h, if_neg (two_ne h n), if_pos (two_eq h t), if_neg (by simpa using hp)]
theorem blk5 {s : ByteArray} {k : Nat} {p : Int} (h : k + 2 ≤ s.size) (n : ((s.extract k (k + 2)).toList == [35, 124]) = false) (t : ((s.extract k (k + 2)).toList == [124, 35]) = false) (hp : (p == 0) = true) : blkGo (s.data.toList.drop k) k p = k + 1 := by
  rw [blk_step h, if_neg (two_ne h n), if_neg (two_ne h t), if_pos (by simpa using hp)]
theorem blk6 {s : ByteArray} {k : Nat} {p : Int} (h : k + 2 ≤ s.size) (n : ((s.extract k (k + 2)).toList == [35, 124]) = false) (t : ((s.extract k (k + 2)).toList == [124, 35]) = false) (hp : (p == 0) = false) : blkGo (s.data.toList.drop k) k p = blkGo (s.data.toList.drop (k + 1)) (k + 1) p := by
  rw [blk_step h, if_neg (two_ne h n), if_neg (two_ne h t), if_neg (by simpa using hp)]
theorem u8t {c d : UInt8} {n : Int} (h : ((c.toNat : Int) == n) = true) (hn : n = d.toNat := by rfl) : c = d := by
  subst hn; simp at h; exact UInt8.toNat_inj.1 (by omega)
theorem u8f {c d : UInt8} {n : Int} (h : ((c.toNat : Int) == n) = false) (hn : n = d.toNat := by rfl) : c ≠ d := by
  subst hn; simp at h; exact fun e => h (by rw [e])
end Sc
end Go.Proofs.YtigdfhcmhidhbaaDoor
