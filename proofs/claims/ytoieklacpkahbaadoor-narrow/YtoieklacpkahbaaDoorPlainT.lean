/- Plain functions: the second reader (package tailorref), and that it reads what the first one reads. No program here. -/
/- Plain laws: the second reader goes through the text byte by byte; where it stands. No program here. -/
/- Plain laws: what tokens look like; how deep lists are. No program here. -/
import Derived.Test.YtoieklacpkahbaaDoorPlainE
namespace Go.Proofs.YtoieklacpkahbaaDoor
open Go.RowKit
namespace Sc
/-- How far a run of bytes goes on. -/
def runN (p : UInt8 → Bool) (l : List UInt8) (a : Nat) : Nat := a + ((l.drop a).takeWhile p).length
theorem runN_le (p : UInt8 → Bool) (l : List UInt8) (a : Nat) (h : a ≤ l.length) : a ≤ runN p l a ∧ runN p l a ≤ l.length := by
  unfold runN
  have := (List.takeWhile_prefix (p := p) (l := l.drop a)).length_le
  simp at this; omega
theorem runN_hit (p : UInt8 → Bool) (l : List UInt8) (a : Nat) (h : a < l.length) (hb : p l[a] = true) : runN p l a = runN p l (a + 1) := by
  unfold runN
  rw [List.drop_eq_getElem_cons h, List.takeWhile_cons, if_pos hb]; simp; omega
theorem runN_miss (p : UInt8 → Bool) (l : List UInt8) (a : Nat) (h : a < l.length) (hb : p l[a] = false) : runN p l a = a := by
  unfold runN
  rw [List.drop_eq_getElem_cons h, List.takeWhile_cons, if_neg (by simp [hb])]; simp
theorem runN_end (p : UInt8 → Bool) (l : List UInt8) (a : Nat) (h : l.length ≤ a) : runN p l a = a := by
  unfold runN; rw [List.drop_eq_nil_of_le h]; simp
def inLn (c : UInt8) : Bool := !(c == 10)
def endB (c : UInt8) : Bool := bl3 c || (c == 40) || (c == 41) || (c == 39) || (c == 96) || (c == 44) || (c == 34) || (c == 59)
def inAt (c : UInt8) : Bool := !(endB c)
/-- quoted, from the i-th byte on. -/
def quoGo : List UInt8 → Nat → Bool → Int
  | [], _, _ => -1
  | c :: t, i, e => if c = 10 then -1 else if e then quoGo t (i + 1) false else if c = 92 then quoGo t (i + 1) true else if c = 34 then i + 1 else quoGo t (i + 1) false
/-- block, from the i-th byte on. -/
def bkGo : List UInt8 → Nat → Int → Int
  | a :: b :: t, i, d =>
    if a = 35 ∧ b = 124 then bkGo t (i + 2) (d + 1)
    else if a = 124 ∧ b = 35 then (if d - 1 = 0 then i + 2 else bkGo t (i + 2) (d - 1))
    else bkGo (b :: t) (i + 1) d
  | _, _, _ => -1
/-- alone. -/
def alB (l : List UInt8) : Nat → Bool
  | 0 => true
  | k + 1 => if l.getD k 0 = 10 then true else if bl3 (l.getD k 0) then alB l k else false
/-- What may stand behind a line. -/
def Suf (suf : List UInt8) : Prop := suf = [] ∨ ∃ r, suf = 10 :: r
def No10 (l : List UInt8) : Prop := ∀ c ∈ l, c ≠ 10
theorem No10.tail {c : UInt8} {l : List UInt8} (h : No10 (c :: l)) : No10 l := fun x hx => h x (List.mem_cons_of_mem _ hx)
theorem takeWhile_line (q p : UInt8 → Bool) (h10 : q 10 = false) (hqp : ∀ c, c ≠ 10 → q c = p c) : ∀ (l suf : List UInt8), No10 l → Suf suf → (l ++ suf).takeWhile q = l.takeWhile p := by
  intro l
  induction l with
  | nil =>
    intro suf _ hs
    rcases hs with rfl | ⟨r, rfl⟩
    · rfl
    · simp [h10]
  | cons c l ih =>
    intro suf hn hs
    have hc := hqp c (hn c (List.mem_cons_self ..))
    rw [List.cons_append, List.takeWhile_cons, List.takeWhile_cons, hc, ih suf hn.tail hs]
theorem tw_true (m : List UInt8) : (m.takeWhile fun _ => true) = m := by
  induction m with
  | nil => rfl
  | cons c m ih => rw [List.takeWhile_cons, if_pos rfl, ih]
theorem eol_line {T m suf : List UInt8} {i : Nat} (hT : T.drop i = m ++ suf) (hn : No10 m) (hs : Suf suf) : runN inLn T i = i + m.length := by
  unfold runN
  rw [hT, takeWhile_line inLn (fun _ => true) rfl (fun c hc => by simp [inLn, hc]) m suf hn hs, tw_true]
theorem atomGo_inAt (c : UInt8) (h : c ≠ 10) : inAt c = atomGo c := by
  unfold inAt endB bl3 atomGo atomEnds
  simp only [List.contains_cons, List.contains_nil, Bool.or_false]
  have e : (c == 10) = false := by simpa using h
  rw [e]
  cases (c == 32) <;> cases (c == 9) <;> cases (c == 40) <;> cases (c == 41) <;> cases (c == 39) <;> cases (c == 44) <;> cases (c == 34) <;> cases (c == 59) <;> cases (c == 96) <;> rfl
theorem atom_line {T t suf : List UInt8} {i : Nat} {c : UInt8} (hT : T.drop i = (c :: t) ++ suf) (hn : No10 (c :: t)) (hs : Suf suf) (hc : atomGo c = true) : runN inAt T (i + 1) = i + atomLen (c :: t) := by
  unfold runN atomLen
  have hd : T.drop (i + 1) = t ++ suf := by rw [← List.drop_drop, hT]; rfl
  rw [hd, takeWhile_line inAt atomGo rfl (fun c hc => atomGo_inAt c hc) t suf hn.tail hs, List.takeWhile_cons, if_pos hc]
  simp; omega
theorem quo_suf {suf : List UInt8} (hs : Suf suf) (i : Nat) (e : Bool) : quoGo suf i e = -1 := by
  rcases hs with rfl | ⟨r, rfl⟩
  · rfl
  · rw [quoGo, if_pos rfl]
theorem strGo_pos : ∀ (t : List UInt8) (j : Nat), strGo t j = 0 ∨ j < strGo t j
  | [], _ => .inl rfl
  | [c], j => by
    rw [strGo]; split
    · exact .inl rfl
    · split
      · right; omega
      · exact .inl rfl
  | c :: d :: t, j => by
    have h1 := strGo_pos t (j + 2)
    have h2 := strGo_pos (d :: t) (j + 1)
    rw [strGo]; split
    · omega
    · split
      · right; omega
      · omega
theorem quo_line {suf : List UInt8} (hs : Suf suf) : ∀ (t : List UInt8) (i j : Nat), No10 t → quoGo (t ++ suf) i false = if strGo t j = 0 then -1 else (i : Int) + ((strGo t j : Int) - j)
  | [], i, j, _ => by simp [strGo, quo_suf hs]
  | [c], i, j, hn => by
    have hc := hn c (List.mem_cons_self ..)
    rw [strGo, List.cons_append, quoGo, if_neg hc]
    simp only [List.nil_append, Bool.false_eq_true, if_false]
    by_cases h1 : c = 92
    · simp [h1, quo_suf hs]
    · by_cases h2 : c = 34
      · subst h2; simp; omega
      · simp [h1, h2, quo_suf hs]
  | c :: d :: t, i, j, hn => by
    have hc := hn c (List.mem_cons_self ..)
    have hd := hn d (List.mem_cons_of_mem _ (List.mem_cons_self ..))
    rw [strGo, List.cons_append, quoGo, if_neg hc]
    simp only [Bool.false_eq_true, if_false]
    by_cases h1 : c = 92
    · have ih := quo_line hs t (i + 1 + 1) (j + 2) hn.tail.tail
      have hp := strGo_pos t (j + 2)
      simp only [h1, beq_self_eq_true, if_true]
      rw [List.cons_append, quoGo, if_neg hd]
      simp only [if_true]
      rw [ih]
      split
      · rfl
      · push_cast; omega
    · by_cases h2 : c = 34
      · subst h2; simp; omega
      · have ih := quo_line hs (d :: t) (i + 1) (j + 1) hn.tail
        have hp := strGo_pos (d :: t) (j + 1)
        simp only [h1, h2, beq_iff_eq, if_false]
        rw [ih]
        split
        · rfl
        · push_cast; omega
theorem blkGo_pos : ∀ (t : List UInt8) (j : Nat) (d : Int), blkGo t j d = 0 ∨ j < blkGo t j d
  | [], _, _ => .inl rfl
  | [_], _, _ => .inl rfl
  | a :: b :: t, j, d => by
    have h1 := blkGo_pos t (j + 2) (d + 1)
    have h2 := blkGo_pos t (j + 2) (d - 1)
    have h3 := blkGo_pos (b :: t) (j + 1) d
    rw [blkGo]
    split
    · split <;> omega
    · split
      · split <;> omega
      · split <;> omega
theorem bk_line : ∀ (t : List UInt8) (i j : Nat) (d : Int), 1 ≤ d → bkGo t i d = if blkGo t j d = 0 then -1 else (i : Int) + ((blkGo t j d : Int) - j)
  | [], i, j, d, _ => by simp [bkGo, blkGo]
  | [_], i, j, d, _ => by simp [bkGo, blkGo]
  | a :: b :: t, i, j, d, hd => by
    by_cases h1 : a = 35 ∧ b = 124
    · have e : blkGo (a :: b :: t) j d = blkGo t (j + 2) (d + 1) := by rw [blkGo, if_pos h1, if_neg (by omega)]
      have ih := bk_line t (i + 2) (j + 2) (d + 1) (by omega)
      have hp := blkGo_pos t (j + 2) (d + 1)
      rw [e, bkGo, if_pos h1, ih]; split
      · rfl
      · push_cast; omega
    · by_cases h2 : a = 124 ∧ b = 35
      · by_cases h3 : d - 1 = 0
        · have e : blkGo (a :: b :: t) j d = j + 2 := by rw [blkGo, if_neg h1, if_pos h2, if_pos h3]
          rw [e, bkGo, if_neg h1, if_pos h2, if_pos h3, if_neg (by omega)]; push_cast; omega
        · have e : blkGo (a :: b :: t) j d = blkGo t (j + 2) (d - 1) := by rw [blkGo, if_neg h1, if_pos h2, if_neg h3]
          have ih := bk_line t (i + 2) (j + 2) (d - 1) (by omega)
          have hp := blkGo_pos t (j + 2) (d - 1)
          rw [e, bkGo, if_neg h1, if_pos h2, if_neg h3, ih]; split
          · rfl
          · push_cast; omega
      · have e : blkGo (a :: b :: t) j d = blkGo (b :: t) (j + 1) d := by rw [blkGo, if_neg h1, if_neg h2, if_neg (by omega)]
        have ih := bk_line (b :: t) (i + 1) (j + 1) d hd
        have hp := blkGo_pos (b :: t) (j + 1) d
        rw [e, bkGo, if_neg h1, if_neg h2, ih]; split
        · rfl
        · push_cast; omega
/-- The token's end, and its kind, as the second reader tells them. -/
def rkOf (kd er : Int) : Int := if er = 0 then kd else 1
def reOf (i ml : Nat) (kd : Int) (n : Nat) (er : Int) : Int := if er = 0 then (if kd = 5 then i + ml else i + n) else -1
end Sc
end Go.Proofs.YtoieklacpkahbaaDoor
namespace Go.Proofs.YtoieklacpkahbaaDoor
open Go.RowKit
namespace Sc
theorem lns_no10 : ∀ (m : List UInt8), ∀ l ∈ lns m, No10 l := by
  intro m
  induction m with
  | nil => intro l hl c hc; simp [lns] at hl; subst hl; simp at hc
  | cons x t ih =>
    intro l hl
    rw [lns] at hl
    by_cases hx : x = 10
    · rw [if_pos hx] at hl
      rcases List.mem_cons.1 hl with rfl | hl
      · intro c hc; simp at hc
      · exact ih l hl
    · rw [if_neg hx] at hl
      cases h : lns t with
      | nil => exact absurd h (lns_ne t)
      | cons y ys =>
        rw [h] at hl ih
        rcases List.mem_cons.1 hl with rfl | hl
        · intro c hc
          rcases List.mem_cons.1 hc with rfl | hc
          · exact hx
          · exact ih y (List.mem_cons_self ..) c hc
        · exact ih l (List.mem_cons_of_mem _ hl)
theorem lineGo_fuel (l : List UInt8) : ∀ (f g a : Nat) (acc : List Tok), l.length < f + a → l.length < g + a → (∀ h : a < l.length, isBl l[a] = false) → lineGo l f a acc = lineGo l g a acc := by
  intro f
  induction f with
  | zero => intro g a acc hf hg _; rw [lineGo_end _ _ _ _ (by omega), lineGo_end _ _ _ _ (by omega)]
  | succ f ih =>
    intro g a acc hf hg hb
    by_cases ha : l.length ≤ a
    · rw [lineGo_end _ _ _ _ ha, lineGo_end _ _ _ _ ha]
    · cases g with
      | zero => omega
      | succ g =>
        by_cases he : (readTok (l.drop a)).2.2 = 0
        · rw [lineGo_on _ _ _ _ (by omega) he, lineGo_on _ _ _ _ (by omega) he]
          have hal : a < l.length := by omega
          have hd := List.drop_eq_getElem_cons hal
          have ho := readTok_ok l[a] (l.drop (a + 1)) (hb hal)
          rw [← hd] at ho
          have ho := ho he
          rw [List.length_drop] at ho
          have hsk := skipB_le l (a + (readTok (l.drop a)).2.1) (by omega)
          exact ih g _ _ (by omega) (by omega) (fun h => skipB_at _ _ h)
        · rw [lineGo_bad _ _ _ _ (by omega) (by omega) he, lineGo_bad _ _ _ _ (by omega) (by omega) he]
/-- What is still to come, from the place a of a line on. -/
def cont (b : Nat) (l : List UInt8) (a : Nat) (lacc : List Tok) (ls : List (List UInt8)) (accP : List Tok) : List Tok × Int × Nat :=
  if (lineGo l (l.length + 1) (skipB l a) lacc).2.1 = 0 then toksGo ls (b + l.length + 1) (accP ++ (lineGo l (l.length + 1) (skipB l a) lacc).1.map (shift b))
  else ([], (lineGo l (l.length + 1) (skipB l a) lacc).2.1, b + (lineGo l (l.length + 1) (skipB l a) lacc).2.2)
/-- Where the second reader stands. -/
structure RS (T : List UInt8) (TR : List Tok × Int × Nat) (i : Nat) (acc : List Tok) (pre l suf : List UInt8) (ls : List (List UInt8)) (a : Nat) (lacc accP : List Tok) : Prop where
  text : T = pre ++ l ++ suf
  place : i = pre.length + a
  le : a ≤ l.length
  no : No10 l
  rest : (suf = [] ∧ ls = []) ∨ ∃ r, suf = 10 :: r ∧ lns r = ls
  head : pre = [] ∨ ∃ p, pre = p ++ [10]
  toks : acc = accP ++ lacc.map (shift pre.length)
  first : lacc.isEmpty = (l.take a).all bl3
  res : TR = cont pre.length l a lacc ls accP
def RState (T : List UInt8) (TR : List Tok × Int × Nat) (i : Nat) (acc : List Tok) : Prop := ∃ pre l suf ls a lacc accP, RS T TR i acc pre l suf ls a lacc accP
theorem toksGo_cont (l : List UInt8) (ls : List (List UInt8)) (b : Nat) (acc : List Tok) : toksGo (l :: ls) b acc = cont b l 0 [] ls acc := by
  rw [toksGo, cont]; rfl
theorem RState.start (T : List UInt8) : RState T (toksRes T) 0 [] := by
  cases h : lns T with
  | nil => exact absurd h (lns_ne T)
  | cons l ls =>
    have hno := lns_no10 T l (by rw [h]; exact List.mem_cons_self ..)
    have hr : toksRes T = cont 0 l 0 [] ls [] := by unfold toksRes; rw [h]; exact toksGo_cont l ls 0 []
    rcases lns_form T l ls h with ⟨h1, h2⟩ | ⟨r, h1, h2⟩
    · exact ⟨[], l, [], ls, 0, [], [], by simp [h2], rfl, by omega, hno, .inl ⟨rfl, h1⟩, .inl rfl, rfl, rfl, hr⟩
    · exact ⟨[], l, 10 :: r, ls, 0, [], [], by simp [h1], rfl, by omega, hno, .inr ⟨r, rfl, h2⟩, .inl rfl, rfl, rfl, hr⟩
theorem RState.blank {T : List UInt8} {TR : List Tok × Int × Nat} {i : Nat} {acc : List Tok} (h : RState T TR i acc) (hi : i < T.length) (hb : bl3 T[i] = true) : RState T TR (i + 1) acc := by
  obtain ⟨pre, l, suf, ls, a, lacc, accP, R⟩ := h
  have ht := R.text; have hp := R.place; have hle := R.le
  subst ht hp
  by_cases ha : a < l.length
  · have hc : (pre ++ l ++ suf)[pre.length + a] = l[a] := by
      rw [List.getElem_append_left (by simp; omega), List.getElem_append_right (by omega)]
      congr 1; omega
    rw [hc] at hb
    have hbl : isBl l[a] = true := by
      have h10 := R.no l[a] (List.getElem_mem ha)
      unfold bl3 at hb; unfold isBl
      have : (l[a] == 10) = false := by simpa using h10
      rw [this, Bool.or_false] at hb; exact hb
    refine ⟨pre, l, suf, ls, a + 1, lacc, accP, rfl, by omega, by omega, R.no, R.rest, R.head, R.toks, ?_, ?_⟩
    · rw [List.take_succ_eq_append_getElem ha, List.all_append, ← R.first]; simp [hb]
    · rw [R.res, cont, cont, skipB_hit l a ha hbl]
  · have hal : a = l.length := by omega
    rcases R.rest with ⟨h1, h2⟩ | ⟨r, h1, h2⟩
    · subst h1; simp at hi; omega
    · have hres := R.res
      rw [cont, skipB_end l a (by omega), lineGo_end _ _ _ _ (by omega), if_pos rfl] at hres
      cases hl : lns r with
      | nil => exact absurd hl (lns_ne r)
      | cons l' ls' =>
        have hno := lns_no10 r l' (by rw [hl]; exact List.mem_cons_self ..)
        rw [← h2, hl, toksGo_cont] at hres
        have hacc := R.toks
        simp only at hres
        rw [← hacc] at hres
        have e1 : pre.length + l.length + 1 = (pre ++ l ++ [10]).length := by simp; omega
        rw [e1] at hres
        rcases lns_form r l' ls' hl with ⟨h3, h4⟩ | ⟨r', h3, h4⟩
        · exact ⟨pre ++ l ++ [10], l', [], ls', 0, [], acc, by rw [h1, h4]; simp, by rw [hal]; simp; omega, by omega, hno, .inl ⟨rfl, h3⟩, .inr ⟨pre ++ l, rfl⟩, by simp, rfl, hres⟩
        · exact ⟨pre ++ l ++ [10], l', 10 :: r', ls', 0, [], acc, by rw [h1, h3]; simp, by rw [hal]; simp; omega, by omega, hno, .inr ⟨r', rfl, h4⟩, .inr ⟨pre ++ l, rfl⟩, by simp, rfl, hres⟩
theorem RState.done {T : List UInt8} {TR : List Tok × Int × Nat} {i : Nat} {acc : List Tok} (h : RState T TR i acc) (hi : T.length ≤ i) : TR = (acc, 0, 0) := by
  obtain ⟨pre, l, suf, ls, a, lacc, accP, R⟩ := h
  have ht := R.text; have hp := R.place; have hle := R.le
  subst ht hp
  have hs : suf = [] := by
    have : suf.length = 0 := by simp at hi; omega
    exact List.eq_nil_of_length_eq_zero this
  rcases R.rest with ⟨h1, h2⟩ | ⟨r, h1, _⟩
  · have hal : l.length ≤ a := by simp [h1] at hi; omega
    rw [R.res, cont, skipB_end l a hal, lineGo_end _ _ _ _ hal, if_pos rfl, h2, R.toks]; rfl
  · rw [h1] at hs; cases hs
theorem tw_all (p : UInt8 → Bool) : ∀ (l : List UInt8), (∀ c ∈ l, p c = true) → l.takeWhile p = l := by
  intro l
  induction l with
  | nil => intro _; rfl
  | cons c l ih => intro h; rw [List.takeWhile_cons, if_pos (h c (List.mem_cons_self ..)), ih fun x hx => h x (List.mem_cons_of_mem _ hx)]
theorem alB_line {pre l suf : List UInt8} (hh : pre = [] ∨ ∃ p, pre = p ++ [10]) (hn : No10 l) : ∀ a, a ≤ l.length → alB (pre ++ l ++ suf) (pre.length + a) = (l.take a).all bl3 := by
  intro a
  induction a with
  | zero =>
    intro _
    rcases hh with rfl | ⟨p, rfl⟩
    · rfl
    · simp only [List.length_append, List.length_singleton, Nat.add_zero, List.take_zero, List.all_nil]
      rw [alB, if_pos]
      simp [List.getD_eq_getElem?_getD]
  | succ a ih =>
    intro ha
    have ha' : a < l.length := by omega
    have hg : (pre ++ l ++ suf).getD (pre.length + a) 0 = l[a] := by
      rw [List.getD_eq_getElem?_getD, List.append_assoc, List.getElem?_append_right (by omega), Nat.add_sub_cancel_left, List.getElem?_append_left ha', List.getElem?_eq_getElem ha']; rfl
    rw [← Nat.add_assoc, alB, hg, if_neg (hn _ (List.getElem_mem ha')), ih (by omega), List.take_succ_eq_append_getElem ha', List.all_append]
    cases hb : bl3 l[a] <;> simp [hb]
theorem endsEl_shift (b : Nat) (xs : List Tok) (ys : List Tok) (h : xs ≠ []) : endsEl (ys ++ xs.map (shift b)) = endsEl xs := by
  unfold endsEl
  rw [List.getLast?_append, List.getLast?_map]
  cases hx : xs.getLast? with
  | none => exact absurd (List.getLast?_eq_none_iff.1 hx) h
  | some x => rfl
theorem readTok_err (c : UInt8) (t : List UInt8) : (readTok (c :: t)).2.2 ≠ 0 → (c = 34 → (readTok (c :: t)).2.2 = 3) ∧ (c ≠ 34 → (readTok (c :: t)).2.2 = 4) := by
  refine readTok_P (fun r => r.2.2 ≠ 0 → (c = 34 → r.2.2 = 3) ∧ (c ≠ 34 → r.2.2 = 4)) (c :: t) ?_ ?_ ?_ ?_ ?_ ?_ ?_ ?_ ?_ ?_ ?_ ?_
  · intro _ h; exact absurd rfl h
  · intro _ h; exact absurd rfl h
  · intro _ h; exact absurd rfl h
  · intro h2 h
    have hc : c = 35 := by
      have := beq_iff_eq.1 h2
      cases t with
      | nil => simp at this
      | cons d t => simp at this; exact this.1
    unfold enE at h ⊢
    by_cases h0 : blkLen (c :: t) = 0
    · simp [h0]; intro h3; rw [hc] at h3; exact absurd h3 (by decide)
    · simp [h0] at h
  · intro _ h; exact absurd rfl h
  · intro _ h; exact absurd rfl h
  · intro _ h; exact absurd rfl h
  · intro _ h; exact absurd rfl h
  · intro _ _ h; exact absurd rfl h
  · intro _ h; exact absurd rfl h
  · intro h2 h
    have hc : c = 34 := (h0_iff c t 34).1 h2
    unfold enE at h ⊢
    by_cases h0 : strLen (c :: t) = 0
    · simp [h0]; exact hc
    · simp [h0] at h
  · intro _ _ _ _ _ _ _ _ _ _ h; exact absurd rfl h
theorem readTok_5 (c : UInt8) (t : List UInt8) : (readTok (c :: t)).1 = 5 → (readTok (c :: t)).2.1 = trimLen (c :: t) ∧ (readTok (c :: t)).2.2 = 0 := by
  refine readTok_P (fun r => r.1 = 5 → r.2.1 = trimLen (c :: t) ∧ r.2.2 = 0) (c :: t) ?_ ?_ ?_ ?_ ?_ ?_ ?_ ?_ ?_ ?_ ?_ ?_
  · intro _ h; simp at h
  · intro _ h; simp at h
  · intro _ h; simp at h
  · intro _ h; simp only [enK] at h; split at h <;> simp at h
  · intro _ h; simp at h
  · intro _ h; simp at h
  · intro _ h; simp at h
  · intro _ h; simp at h
  · intro _ _ h; simp at h
  · intro _ _; exact ⟨rfl, rfl⟩
  · intro _ h; simp only [enK] at h; split at h <;> simp at h
  · intro _ _ _ _ _ _ _ _ _ _ h; simp at h
/-- The step at a token. -/
theorem RState.step {T : List UInt8} {TR : List Tok × Int × Nat} {i : Nat} {acc : List Tok} (h : RState T TR i acc) (hi : i < T.length) (hb : bl3 T[i] = false) :
    ∃ t suf, T.drop i = (T[i] :: t) ++ suf ∧ Suf suf ∧ No10 (T[i] :: t) ∧ isBl T[i] = false ∧
      ∀ kd n er, readTok (T[i] :: t) = (kd, n, er) →
        (er ≠ 0 → TR = ([], er, i)) ∧
        (er = 0 → 1 ≤ n ∧ n ≤ (T[i] :: t).length ∧
          (kd = 5 → n = trimLen (T[i] :: t)) ∧
          RState T TR (if kd = 5 then i + (T[i] :: t).length else i + n) (acc ++ [⟨kd, (T[i] :: t).take n, i, (kd == 5) && (!(alB T i) && endsEl acc)⟩]) ∧ (alB T i = false → acc ≠ [])) := by
  obtain ⟨pre, l, suf, ls, a, lacc, accP, R⟩ := h
  have ht := R.text; have hp := R.place; have hle := R.le
  subst ht hp
  have ha : a < l.length := by
    by_cases ha : a < l.length
    · exact ha
    · exfalso
      rcases R.rest with ⟨h1, _⟩ | ⟨r, h1, _⟩
      · subst h1; simp at hi; omega
      · have : (pre ++ l ++ suf)[pre.length + a] = 10 := by
          have : (pre ++ l ++ suf)[pre.length + a]? = some 10 := by
            rw [h1, List.append_assoc, List.getElem?_append_right (by omega), Nat.add_sub_cancel_left, List.getElem?_append_right (by omega), show a - l.length = 0 by omega]; rfl
          rw [List.getElem?_eq_getElem hi] at this
          exact Option.some.inj this
        rw [this] at hb; simp [bl3] at hb
  have hc : (pre ++ l ++ suf)[pre.length + a] = l[a] := by
    rw [List.getElem_append_left (by simp; omega), List.getElem_append_right (by omega)]
    congr 1; omega
  rw [hc] at hb ⊢
  have hbl : isBl l[a] = false := by
    unfold bl3 at hb; unfold isBl
    simp only [Bool.or_eq_false_iff] at hb ⊢
    exact hb.1
  have hdl : l.drop a = l[a] :: l.drop (a + 1) := List.drop_eq_getElem_cons ha
  have hal := alB_line (suf := suf) R.head R.no a (by omega)
  refine ⟨l.drop (a + 1), suf, ?_, ?_, ?_, hbl, ?_⟩
  · rw [List.append_assoc, ← List.drop_drop, List.drop_left, List.drop_append_of_le_length (by omega), hdl]
  · rcases R.rest with ⟨h1, _⟩ | ⟨r, h1, _⟩
    · exact .inl h1
    · exact .inr ⟨r, h1⟩
  · rw [← hdl]; exact fun c hc => R.no c (List.mem_of_mem_drop hc)
  · intro kd n er hr
    rw [← hdl] at hr ⊢
    have hres := R.res
    rw [cont, skipB_miss l a ha hbl] at hres
    refine ⟨fun her => ?_, fun her => ?_⟩
    · rw [lineGo_bad l _ a lacc ha (by omega) (by rw [hr]; exact her), hr] at hres
      simp only at hres
      rw [if_neg her] at hres
      exact hres
    · subst her
      have ho := readTok_ok l[a] (l.drop (a + 1)) hbl
      rw [← hdl, hr] at ho
      have ho := ho rfl
      simp only [List.length_drop] at ho
      have h5 : kd = 5 → n = trimLen (l.drop a) := by
        intro h5
        have := readTok_5 l[a] (l.drop (a + 1))
        rw [← hdl, hr] at this
        exact (this h5).1
      have hbeh : ((kd == 5) && (!(alB (pre ++ l ++ suf) (pre.length + a)) && endsEl acc)) = ((kd == 5) && endsEl lacc) := by
        rw [hal, ← R.first, R.toks]
        cases hl : lacc with
        | nil => simp [endsEl]
        | cons x xs => rw [endsEl_shift _ _ _ (by simp)]; simp
      rw [hbeh]
      have hsk := skipB_le l (a + n) (by omega)
      rw [lineGo_on l _ a lacc ha (by rw [hr])] at hres
      simp only [hr] at hres
      rw [lineGo_fuel l l.length (l.length + 1) (skipB l (a + n)) _ (by omega) (by omega) (fun h => skipB_at _ _ h)] at hres
      refine ⟨ho.1, by rw [List.length_drop]; omega, h5, ?_, ?_⟩
      · have htk : acc ++ [(⟨kd, (l.drop a).take n, ((pre.length + a : Nat) : Int), (kd == 5) && endsEl lacc⟩ : Tok)] = accP ++ (lacc ++ [(⟨kd, (l.drop a).take n, (a : Int), (kd == 5) && endsEl lacc⟩ : Tok)]).map (shift pre.length) := by
          rw [R.toks, List.map_append, List.append_assoc]
          simp only [List.map_cons, List.map_nil, shift]
          congr 3
          simp; omega
        rw [htk]
        have hne : ∀ b, a < b → b ≤ l.length → (lacc ++ [(⟨kd, (l.drop a).take n, (a : Int), (kd == 5) && endsEl lacc⟩ : Tok)]).isEmpty = (l.take b).all bl3 := by
          intro b hb1 hb2
          have : (l.take b).all bl3 = false := by
            rw [List.all_eq_false]
            exact ⟨l[a], by rw [List.mem_take_iff_getElem]; exact ⟨a, by omega, rfl⟩, by simp [hb]⟩
          rw [this]; simp
        by_cases hk : kd = 5
        · rw [if_pos hk]
          have htr := trimRightS_eq (l.drop a)
          have hend : skipB l (a + n) = l.length := by
            have hall : ∀ c ∈ l.drop (a + n), isBl c = true := by
              have := htr.2.2
              rw [← h5 hk, List.drop_drop] at this
              exact this
            unfold skipB blN
            have : (l.drop (a + n)).takeWhile isBl = l.drop (a + n) := by
              exact tw_all isBl _ hall
            rw [this, List.length_drop]; omega
          refine ⟨pre, l, suf, ls, l.length, _, accP, rfl, by rw [List.length_drop]; omega, by omega, R.no, R.rest, R.head, rfl, hne _ (by omega) (by omega), ?_⟩
          rw [hres, cont, skipB_end l l.length (by omega), hend]
        · rw [if_neg hk]
          refine ⟨pre, l, suf, ls, a + n, _, accP, rfl, by omega, by omega, R.no, R.rest, R.head, rfl, hne _ (by omega) (by omega), ?_⟩
          rw [hres, cont]
      · intro hf
        rw [hal, ← R.first] at hf
        rw [R.toks]
        intro he
        have := List.append_eq_nil_iff.1 he
        rw [List.map_eq_nil_iff] at this
        rw [this.2] at hf; simp at hf
theorem RState.le {T : List UInt8} {TR : List Tok × Int × Nat} {i : Nat} {acc : List Tok} (h : RState T TR i acc) : i ≤ T.length := by
  obtain ⟨pre, l, suf, ls, a, lacc, accP, R⟩ := h
  have hp := R.place; have hle := R.le; have ht := R.text
  rw [ht, hp]; simp; omega
end Sc
end Go.Proofs.YtoieklacpkahbaaDoor
namespace Go.Proofs.YtoieklacpkahbaaDoor
open Go.RowKit
namespace Sc
/-- What a token looks like. -/
def Shape (t : Tok) : Prop := 0 < t.text.length ∧ (t.text = [44] → t.kind = 4) ∧ (t.kind = 2 ∨ t.kind = 4 → t.text.headD 0 ≠ 64) ∧ (t.kind = 1 ∨ t.kind = 2 ∨ t.kind = 3 ∨ t.kind = 4 ∨ t.kind = 5)
theorem take2_head {c : UInt8} {t : List UInt8} {x y : UInt8} (h : (c :: t).take 2 == [x, y]) : c = x := by
  have := beq_iff_eq.1 h
  cases t with
  | nil => simp at this
  | cons d t => simp at this; exact this.1
theorem readTok_shape (c : UInt8) (t : List UInt8) : 1 ≤ (readTok (c :: t)).2.1 →
    (((c :: t).take (readTok (c :: t)).2.1) = [44] → (readTok (c :: t)).1 = 4) ∧ ((readTok (c :: t)).1 = 2 ∨ (readTok (c :: t)).1 = 4 → ((c :: t).take (readTok (c :: t)).2.1).headD 0 ≠ 64) := by
  have hd : ∀ n, 1 ≤ n → ((c :: t).take n).headD 0 = c := by
    intro n hn; cases n with
    | zero => omega
    | succ n => rfl
  have h44 : ∀ n, 1 ≤ n → (c :: t).take n = [44] → c = 44 := by
    intro n hn h; have := hd n hn; rw [h] at this; exact this.symm
  refine readTok_P (fun r => 1 ≤ r.2.1 → ((c :: t).take r.2.1 = [44] → r.1 = 4) ∧ (r.1 = 2 ∨ r.1 = 4 → ((c :: t).take r.2.1).headD 0 ≠ 64)) (c :: t) ?_ ?_ ?_ ?_ ?_ ?_ ?_ ?_ ?_ ?_ ?_ ?_
  · intro h hn; have hc := take2_head h
    exact ⟨fun e => by have := h44 _ hn e; rw [hc] at this; exact absurd this (by decide), fun _ => by rw [hd _ hn, hc]; decide⟩
  · intro h hn; have hc := take2_head h
    exact ⟨fun _ => rfl, fun _ => by rw [hd _ hn, hc]; decide⟩
  · intro h hn; have hc := take2_head h
    exact ⟨fun _ => rfl, fun _ => by rw [hd _ hn, hc]; decide⟩
  · intro h hn; have hc := take2_head h
    exact ⟨fun e => by have := h44 _ hn e; rw [hc] at this; exact absurd this (by decide), fun _ => by rw [hd _ hn, hc]; decide⟩
  · intro h hn; have hc := (h0_iff c t 40).1 h
    exact ⟨fun e => by have := h44 _ hn e; rw [hc] at this; exact absurd this (by decide), fun _ => by rw [hd _ hn, hc]; decide⟩
  · intro h hn; have hc := (h0_iff c t 41).1 h
    exact ⟨fun e => by have := h44 _ hn e; rw [hc] at this; exact absurd this (by decide), fun _ => by rw [hd _ hn, hc]; decide⟩
  · intro h hn; have hc := (h0_iff c t 39).1 h
    exact ⟨fun _ => rfl, fun _ => by rw [hd _ hn, hc]; decide⟩
  · intro h hn; have hc := (h0_iff c t 96).1 h
    exact ⟨fun _ => rfl, fun _ => by rw [hd _ hn, hc]; decide⟩
  · intro h _ hn; have hc := (h0_iff c t 44).1 h
    exact ⟨fun _ => rfl, fun _ => by rw [hd _ hn, hc]; decide⟩
  · intro h hn; have hc := (h0_iff c t 59).1 h
    exact ⟨fun e => by have := h44 _ hn e; rw [hc] at this; exact absurd this (by decide), fun _ => by rw [hd _ hn, hc]; decide⟩
  · intro h hn; have hc := (h0_iff c t 34).1 h
    exact ⟨fun e => by have := h44 _ hn e; rw [hc] at this; exact absurd this (by decide), fun _ => by rw [hd _ hn, hc]; decide⟩
  · intro _ _ _ _ _ _ _ h9 _ _ hn
    refine ⟨fun e => absurd ((h0_iff c t 44).2 (h44 _ hn e)) (by simpa using h9), fun h => by simp at h⟩
theorem readTok_kind (c : UInt8) (t : List UInt8) : 1 ≤ (readTok (c :: t)).2.1 →
    ((readTok (c :: t)).1 = 1 ∨ (readTok (c :: t)).1 = 2 ∨ (readTok (c :: t)).1 = 3 ∨ (readTok (c :: t)).1 = 4 ∨ (readTok (c :: t)).1 = 5) := by
  refine readTok_P (fun r => 1 ≤ r.2.1 → (r.1 = 1 ∨ r.1 = 2 ∨ r.1 = 3 ∨ r.1 = 4 ∨ r.1 = 5)) (c :: t) ?_ ?_ ?_ ?_ ?_ ?_ ?_ ?_ ?_ ?_ ?_ ?_
  · intro _ _; simp
  · intro _ _; simp
  · intro _ _; simp
  · intro _ h; left; simp only [enK] at h ⊢; rw [if_neg (by omega)]
  · intro _ _; simp
  · intro _ _; simp
  · intro _ _; simp
  · intro _ _; simp
  · intro _ _ _; simp
  · intro _ _; simp
  · intro _ h; left; simp only [enK] at h ⊢; rw [if_neg (by omega)]
  · intro _ _ _ _ _ _ _ _ _ _ _; simp
theorem lineGo_shape (l : List UInt8) : ∀ (f a : Nat) (acc : List Tok), (∀ t ∈ acc, Shape t) → (∀ h : a < l.length, isBl l[a] = false) → ∀ t ∈ (lineGo l f a acc).1, Shape t := by
  intro f
  induction f with
  | zero => intro a acc h _ t ht; exact h t ht
  | succ f ih =>
    intro a acc h h4 t ht
    by_cases ha : l.length ≤ a
    · rw [lineGo_end _ _ _ _ ha] at ht; exact h t ht
    · by_cases he : (readTok (l.drop a)).2.2 = 0
      · rw [lineGo_on _ _ _ _ (by omega) he] at ht
        have hal : a < l.length := by omega
        have hd := List.drop_eq_getElem_cons hal
        have hok := readTok_ok l[a] (l.drop (a + 1)) (h4 hal)
        rw [← hd] at hok
        have hok := hok he
        have hsh := readTok_shape l[a] (l.drop (a + 1))
        rw [← hd] at hsh
        have hsh := hsh hok.1
        have hkd := readTok_kind l[a] (l.drop (a + 1))
        rw [← hd] at hkd
        have hkd := hkd hok.1
        refine ih _ _ ?_ (fun h => skipB_at _ _ h) t ht
        intro x hx
        rcases List.mem_append.1 hx with hx | hx
        · exact h x hx
        · simp at hx; subst hx
          exact ⟨by show 0 < ((l.drop a).take _).length; rw [List.length_take]; omega, hsh.1, hsh.2, hkd⟩
      · rw [lineGo_bad _ _ _ _ (by omega) (by omega) he] at ht; simp at ht
theorem toksGo_shape : ∀ (ls : List (List UInt8)) (b : Nat) (acc : List Tok), (∀ t ∈ acc, Shape t) → ∀ t ∈ (toksGo ls b acc).1, Shape t := by
  intro ls
  induction ls with
  | nil => intro b acc h t ht; exact h t ht
  | cons l ls ih =>
    intro b acc h t ht
    rw [toksGo] at ht
    split at ht
    · refine ih _ _ ?_ t ht
      intro x hx
      rcases List.mem_append.1 hx with hx | hx
      · exact h x hx
      · obtain ⟨y, hy, rfl⟩ := List.mem_map.1 hx
        exact lineGo_shape l _ _ _ (fun t ht => by simp at ht) (fun h => skipB_at _ _ h) y hy
    · simp at ht
theorem toksRes_shape (l : List UInt8) : ∀ t ∈ (toksRes l).1, Shape t := toksGo_shape _ _ _ (fun t ht => by simp at ht)

/-- How deep it is behind a token. -/
def dstep (d : Int) (t : Tok) : Int := d + (if t.kind = 2 then 1 else 0) - (if t.kind = 3 then 1 else 0)
def dpGo : List Tok → Int → Int
  | [], d => d
  | t :: ts, d => if dstep d t < 0 then dstep d t else dpGo ts (dstep d t)
theorem dpGo_snoc : ∀ (P : List Tok) (t : Tok) (d : Int), 0 ≤ d → dpGo (P ++ [t]) d = if dpGo P d < 0 then dpGo P d else dstep (dpGo P d) t := by
  intro P
  induction P with
  | nil =>
    intro t d hd
    rw [List.nil_append, dpGo, dpGo, dpGo, if_neg (by omega : ¬ d < 0)]
    split <;> rfl
  | cons x P ih =>
    intro t d hd
    rw [List.cons_append, dpGo, dpGo]
    by_cases h : dstep d x < 0
    · rw [if_pos h, if_pos h, if_pos h]
    · rw [if_neg h, if_neg h, ih t _ (by omega)]
/-- Where the open lists begin. -/
def Stk (P : List Tok) (st : List Int) : Prop := dpGo P 0 = st.length ∧
  ∀ q (hq : q < st.length), ∃ j, ∃ hj : j < P.length, P[j].kind = 2 ∧ P[j].place = st[q] ∧ dpGo (P.take j) 0 = q ∧ ∀ i, j < i → i ≤ P.length → (q : Int) + 1 ≤ dpGo (P.take i) 0
theorem Stk.nil : Stk [] [] := ⟨rfl, fun q hq => by simp at hq⟩
theorem Stk.old {P : List Tok} {st st' : List Int} {t : Tok} (h : Stk P st) (hp : dpGo (P ++ [t]) 0 = st'.length) (hle : st'.length ≤ st.length + 1)
    (hst : ∀ q (h1 : q < st.length) (h2 : q < st'.length), st'[q] = st[q]) (hnew : ∀ q (hq : q < st'.length), q = st.length → t.kind = 2 ∧ t.place = st'[q]) : Stk (P ++ [t]) st' := by
  refine ⟨hp, fun q hq => ?_⟩
  by_cases hq2 : q < st.length
  · obtain ⟨j, hj, h1, h2, h3, h4⟩ := h.2 q hq2
    refine ⟨j, by simp; omega, ?_, ?_, ?_, fun i hi1 hi2 => ?_⟩
    · rw [List.getElem_append_left hj]; exact h1
    · rw [List.getElem_append_left hj, h2, hst q hq2 hq]
    · rw [List.take_append_of_le_length (by omega)]; exact h3
    · by_cases hi3 : i ≤ P.length
      · rw [List.take_append_of_le_length hi3]; exact h4 i hi1 hi3
      · rw [List.take_of_length_le (by simp at hi2 ⊢; omega), hp]; omega
  · have e : q = st.length := by omega
    obtain ⟨h1, h2⟩ := hnew q hq e
    refine ⟨P.length, by simp, ?_, ?_, ?_, fun i hi1 hi2 => ?_⟩
    · simp; exact h1
    · simp; exact h2
    · rw [List.take_left, h.1, e]
    · rw [List.take_of_length_le (by simp at hi2 ⊢; omega), hp]; omega
theorem dp_next {P : List Tok} {st : List Int} {t : Tok} (h : Stk P st) : dpGo (P ++ [t]) 0 = dstep st.length t := by
  rw [dpGo_snoc _ _ _ (by omega), h.1, if_neg (by omega)]
theorem Stk.push {P : List Tok} {st : List Int} {t : Tok} (h : Stk P st) (hk : t.kind = 2) : Stk (P ++ [t]) (st ++ [t.place]) := by
  refine h.old (by rw [dp_next h, dstep, if_pos hk, if_neg (by omega)]; simp) (by simp) (fun q h1 h2 => by rw [List.getElem_append_left h1]) (fun q hq e => ⟨hk, by subst e; simp⟩)
theorem Stk.pop {P : List Tok} {st : List Int} {t : Tok} (h : Stk P st) (hk : t.kind = 3) (hs : st.length ≠ 0) : Stk (P ++ [t]) st.dropLast := by
  refine h.old (by rw [dp_next h, dstep, if_neg (by omega), if_pos hk, List.length_dropLast]; omega) (by simp; omega) (fun q h1 h2 => by rw [List.getElem_dropLast]) (fun q hq e => by simp at hq; omega)
theorem Stk.stay {P : List Tok} {st : List Int} {t : Tok} (h : Stk P st) (h2 : t.kind ≠ 2) (h3 : t.kind ≠ 3) : Stk (P ++ [t]) st := by
  refine h.old (by rw [dp_next h, dstep, if_neg h2, if_neg h3]; omega) (by omega) (fun q h1 h2 => rfl) (fun q hq e => by omega)
end Sc
end Go.Proofs.YtoieklacpkahbaaDoor
