/- Plain functions: the second reader (package tailorref), and that it reads what the first one reads. No program here. -/
import Derived.Test.YtigdfhcmhidhbaaDoorPlainE
namespace Go.Proofs.YtigdfhcmhidhbaaDoor
open Go.RowKit
namespace Sc
/-- How far a run of bytes goes on. -/
def runN (p : UInt8 → Bool) (l : List UInt8) (a : Nat) : Nat := a + ((l.drop a).takeWhile p).length
theorem runN_le (p : UInt8 → Bool) (l : List UInt8) (a : Nat) (h : a ≤ l.length) : a ≤ runN p l a ∧ runN p l a ≤ l.length := by
  unfold runN
  have := (List.takeWhile_prefix (p := p) (l := l.drop a)).length_le
  simp at this; omega
theorem runN_hit (p : UInt8 → Bool) (l : List UInt8) (a : Nat) (h : a < l.length) (hb : p l[a] = true) : runN p l a = runN p l (a + 1) := by
  unfold runN
  rw [List.drop_eq_getElem_cons h, List.takeWhile_cons, if_pos hb]; simp; omega
theorem runN_miss (p : UInt8 → Bool) (l : List UInt8) (a : Nat) (h : a < l.length) (hb : p l[a] = false) : runN p l a = a := by
  unfold runN
  rw [List.drop_eq_getElem_cons h, List.takeWhile_cons, if_neg (by simp [hb])]; simp
theorem runN_end (p : UInt8 → Bool) (l : List UInt8) (a : Nat) (h : l.length ≤ a) : runN p l a = a := by
  unfold runN; rw [List.drop_eq_nil_of_le h]; simp
def inLn (c : UInt8) : Bool := !(c == 10)
def endB (c : UInt8) : Bool := bl3 c || (c == 40) || (c == 41) || (c == 39) || (c == 96) || (c == 44) || (c == 34) || (c == 59)
def inAt (c : UInt8) : Bool := !(endB c)
/-- quoted, from the i-th byte on. -/
def quoGo : List UInt8 → Nat → Bool → Int
  | [], _, _ => -1
  | c :: t, i, e => if c = 10 then -1 else if e then quoGo t (i + 1) false else if c = 92 then quoGo t (i + 1) true else if c = 34 then i + 1 else quoGo t (i + 1) false
/-- block, from the i-th byte on. -/
def bkGo : List UInt8 → Nat → Int → Int
  | a :: b :: t, i, d =>
    if a = 35 ∧ b = 124 then bkGo t (i + 2) (d + 1)
    else if a = 124 ∧ b = 35 then (if d - 1 = 0 then i + 2 else bkGo t (i + 2) (d - 1))
    else bkGo (b :: t) (i + 1) d
  | _, _, _ => -1
/-- alone. -/
def alB (l : List UInt8) : Nat → Bool
  | 0 => true
  | k + 1 => if l.getD k 0 = 10 then true else if bl3 (l.getD k 0) then alB l k else false
/-- What may stand behind a line. -/
def Suf (suf : List UInt8) : Prop := suf = [] ∨ ∃ r, suf = 10 :: r
def No10 (l : List UInt8) : Prop := ∀ c ∈ l, c ≠ 10
theorem No10.tail {c : UInt8} {l : List UInt8} (h : No10 (c :: l)) : No10 l := fun x hx => h x (List.mem_cons_of_mem _ hx)
theorem takeWhile_line (q p : UInt8 → Bool) (h10 : q 10 = false) (hqp : ∀ c, c ≠ 10 → q c = p c) : ∀ (l suf : List UInt8), No10 l → Suf suf → (l ++ suf).takeWhile q = l.takeWhile p := by
  intro l
  induction l with
  | nil =>
    intro suf _ hs
    rcases hs with rfl | ⟨r, rfl⟩
    · rfl
    · simp [h10]
  | cons c l ih =>
    intro suf hn hs
    have hc := hqp c (hn c (List.mem_cons_self ..))
    rw [List.cons_append, List.takeWhile_cons, List.takeWhile_cons, hc, ih suf hn.tail hs]
theorem tw_true (m : List UInt8) : (m.takeWhile fun _ => true) = m := by
  induction m with
  | nil => rfl
  | cons c m ih => rw [List.takeWhile_cons, if_pos rfl, ih]
theorem eol_line {T m suf : List UInt8} {i : Nat} (hT : T.drop i = m ++ suf) (hn : No10 m) (hs : Suf suf) : runN inLn T i = i + m.length := by
  unfold runN
  rw [hT, takeWhile_line inLn (fun _ => true) rfl (fun c hc => by simp [inLn, hc]) m suf hn hs, tw_true]
theorem atomGo_inAt (c : UInt8) (h : c ≠ 10) : inAt c = atomGo c := by
  unfold inAt endB bl3 atomGo atomEnds
  simp only [List.contains_cons, List.contains_nil, Bool.or_false]
  have e : (c == 10) = false := by simpa using h
  rw [e]
  cases (c == 32) <;> cases (c == 9) <;> cases (c == 40) <;> cases (c == 41) <;> cases (c == 39) <;> cases (c == 44) <;> cases (c == 34) <;> cases (c == 59) <;> cases (c == 96) <;> rfl
theorem atom_line {T t suf : List UInt8} {i : Nat} {c : UInt8} (hT : T.drop i = (c :: t) ++ suf) (hn : No10 (c :: t)) (hs : Suf suf) (hc : atomGo c = true) : runN inAt T (i + 1) = i + atomLen (c :: t) := by
  unfold runN atomLen
  have hd : T.drop (i + 1) = t ++ suf := by rw [← List.drop_drop, hT]; rfl
  rw [hd, takeWhile_line inAt atomGo rfl (fun c hc => atomGo_inAt c hc) t suf hn.tail hs, List.takeWhile_cons, if_pos hc]
  simp; omega
theorem quo_suf {suf : List UInt8} (hs : Suf suf) (i : Nat) (e : Bool) : quoGo suf i e = -1 := by
  rcases hs with rfl | ⟨r, rfl⟩
  · rfl
  · rw [quoGo, if_pos rfl]
theorem strGo_pos : ∀ (t : List UInt8) (j : Nat), strGo t j = 0 ∨ j < strGo t j
  | [], _ => .inl rfl
  | [c], j => by
    rw [strGo]; split
    · exact .inl rfl
    · split
      · right; omega
      · exact .inl rfl
  | c :: d :: t, j => by
    have h1 := strGo_pos t (j + 2)
    have h2 := strGo_pos (d :: t) (j + 1)
    rw [strGo]; split
    · omega
    · split
      · right; omega
      · omega
theorem quo_line {suf : List UInt8} (hs : Suf suf) : ∀ (t : List UInt8) (i j : Nat), No10 t → quoGo (t ++ suf) i false = if strGo t j = 0 then -1 else (i : Int) + ((strGo t j : Int) - j)
  | [], i, j, _ => by simp [strGo, quo_suf hs]
  | [c], i, j, hn => by
    have hc := hn c (List.mem_cons_self ..)
    rw [strGo, List.cons_append, quoGo, if_neg hc]
    simp only [List.nil_append, Bool.false_eq_true, if_false]
    by_cases h1 : c = 92
    · simp [h1, quo_suf hs]
    · by_cases h2 : c = 34
      · subst h2; simp; omega
      · simp [h1, h2, quo_suf hs]
  | c :: d :: t, i, j, hn => by
    have hc := hn c (List.mem_cons_self ..)
    have hd := hn d (List.mem_cons_of_mem _ (List.mem_cons_self ..))
    rw [strGo, List.cons_append, quoGo, if_neg hc]
    simp only [Bool.false_eq_true, if_false]
    by_cases h1 : c = 92
    · have ih := quo_line hs t (i + 1 + 1) (j + 2) hn.tail.tail
      have hp := strGo_pos t (j + 2)
      simp only [h1, beq_self_eq_true, if_true]
      rw [List.cons_append, quoGo, if_neg hd]
      simp only [if_true]
      rw [ih]
      split
      · rfl
      · push_cast; omega
    · by_cases h2 : c = 34
      · subst h2; simp; omega
      · have ih := quo_line hs (d :: t) (i + 1) (j + 1) hn.tail
        have hp := strGo_pos (d :: t) (j + 1)
        simp only [h1, h2, beq_iff_eq, if_false]
        rw [ih]
        split
        · rfl
        · push_cast; omega
theorem blkGo_pos : ∀ (t : List UInt8) (j : Nat) (d : Int), blkGo t j d = 0 ∨ j < blkGo t j d
  | [], _, _ => .inl rfl
  | [_], _, _ => .inl rfl
  | a :: b :: t, j, d => by
    have h1 := blkGo_pos t (j + 2) (d + 1)
    have h2 := blkGo_pos t (j + 2) (d - 1)
    have h3 := blkGo_pos (b :: t) (j + 1) d
    rw [blkGo]
    split
    · split <;> omega
    · split
      · split <;> omega
      · split <;> omega
theorem bk_line : ∀ (t : List UInt8) (i j : Nat) (d : Int), 1 ≤ d → bkGo t i d = if blkGo t j d = 0 then -1 else (i : Int) + ((blkGo t j d : Int) - j)
  | [], i, j, d, _ => by simp [bkGo, blkGo]
  | [_], i, j, d, _ => by simp [bkGo, blkGo]
  | a :: b :: t, i, j, d, hd => by
    by_cases h1 : a = 35 ∧ b = 124
    · have e : blkGo (a :: b :: t) j d = blkGo t (j + 2) (d + 1) := by rw [blkGo, if_pos h1, if_neg (by omega)]
      have ih := bk_line t (i + 2) (j + 2) (d + 1) (by omega)
      have hp := blkGo_pos t (j + 2) (d + 1)
      rw [e, bkGo, if_pos h1, ih]; split
      · rfl
      · push_cast; omega
    · by_cases h2 : a = 124 ∧ b = 35
      · by_cases h3 : d - 1 = 0
        · have e : blkGo (a :: b :: t) j d = j + 2 := by rw [blkGo, if_neg h1, if_pos h2, if_pos h3]
          rw [e, bkGo, if_neg h1, if_pos h2, if_pos h3, if_neg (by omega)]; push_cast; omega
        · have e : blkGo (a :: b :: t) j d = blkGo t (j + 2) (d - 1) := by rw [blkGo, if_neg h1, if_pos h2, if_neg h3]
          have ih := bk_line t (i + 2) (j + 2) (d - 1) (by omega)
          have hp := blkGo_pos t (j + 2) (d - 1)
          rw [e, bkGo, if_neg h1, if_pos h2, if_neg h3, ih]; split
          · rfl
          · push_cast; omega
      · have e : blkGo (a :: b :: t) j d = blkGo (b :: t) (j + 1) d := by rw [blkGo, if_neg h1, if_neg h2, if_neg (by omega)]
        have ih := bk_line (b :: t) (i + 1) (j + 1) d hd
        have hp := blkGo_pos (b :: t) (j + 1) d
        rw [e, bkGo, if_neg h1, if_neg h2, ih]; split
        · rfl
        · push_cast; omega
/-- The token's end, and its kind, as the second reader tells them. -/
def rkOf (kd er : Int) : Int := if er = 0 then kd else 1
def reOf (i ml : Nat) (kd : Int) (n : Nat) (er : Int) : Int := if er = 0 then (if kd = 5 then i + ml else i + n) else -1
end Sc
end Go.Proofs.YtigdfhcmhidhbaaDoor
