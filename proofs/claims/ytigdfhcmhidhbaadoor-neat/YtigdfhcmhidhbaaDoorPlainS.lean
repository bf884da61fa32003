/- Plain laws: the second reader goes through the text byte by byte; where it stands. No program here. -/
import Derived.Test.YtigdfhcmhidhbaaDoorPlainR
namespace Go.Proofs.YtigdfhcmhidhbaaDoor
open Go.RowKit
namespace Sc
theorem lns_no10 : ∀ (m : List UInt8), ∀ l ∈ lns m, No10 l := by
  intro m
  induction m with
  | nil => intro l hl c hc; simp [lns] at hl; subst hl; simp at hc
  | cons x t ih =>
    intro l hl
    rw [lns] at hl
    by_cases hx : x = 10
    · rw [if_pos hx] at hl
      rcases List.mem_cons.1 hl with rfl | hl
      · intro c hc; simp at hc
      · exact ih l hl
    · rw [if_neg hx] at hl
      cases h : lns t with
      | nil => exact absurd h (lns_ne t)
      | cons y ys =>
        rw [h] at hl ih
        rcases List.mem_cons.1 hl with rfl | hl
        · intro c hc
          rcases List.mem_cons.1 hc with rfl | hc
          · exact hx
          · exact ih y (List.mem_cons_self ..) c hc
        · exact ih l (List.mem_cons_of_mem _ hl)
theorem lineGo_fuel (l : List UInt8) : ∀ (f g a : Nat) (acc : List Tok), l.length < f + a → l.length < g + a → (∀ h : a < l.length, isBl l[a] = false) → lineGo l f a acc = lineGo l g a acc := by
  intro f
  induction f with
  | zero => intro g a acc hf hg _; rw [lineGo_end _ _ _ _ (by omega), lineGo_end _ _ _ _ (by omega)]
  | succ f ih =>
    intro g a acc hf hg hb
    by_cases ha : l.length ≤ a
    · rw [lineGo_end _ _ _ _ ha, lineGo_end _ _ _ _ ha]
    · cases g with
      | zero => omega
      | succ g =>
        by_cases he : (readTok (l.drop a)).2.2 = 0
        · rw [lineGo_on _ _ _ _ (by omega) he, lineGo_on _ _ _ _ (by omega) he]
          have hal : a < l.length := by omega
          have hd := List.drop_eq_getElem_cons hal
          have ho := readTok_ok l[a] (l.drop (a + 1)) (hb hal)
          rw [← hd] at ho
          have ho := ho he
          rw [List.length_drop] at ho
          have hsk := skipB_le l (a + (readTok (l.drop a)).2.1) (by omega)
          exact ih g _ _ (by omega) (by omega) (fun h => skipB_at _ _ h)
        · rw [lineGo_bad _ _ _ _ (by omega) (by omega) he, lineGo_bad _ _ _ _ (by omega) (by omega) he]
/-- What is still to come, from the place a of a line on. -/
def cont (b : Nat) (l : List UInt8) (a : Nat) (lacc : List Tok) (ls : List (List UInt8)) (accP : List Tok) : List Tok × Int × Nat :=
  if (lineGo l (l.length + 1) (skipB l a) lacc).2.1 = 0 then toksGo ls (b + l.length + 1) (accP ++ (lineGo l (l.length + 1) (skipB l a) lacc).1.map (shift b))
  else ([], (lineGo l (l.length + 1) (skipB l a) lacc).2.1, b + (lineGo l (l.length + 1) (skipB l a) lacc).2.2)
/-- Where the second reader stands. -/
structure RS (T : List UInt8) (TR : List Tok × Int × Nat) (i : Nat) (acc : List Tok) (pre l suf : List UInt8) (ls : List (List UInt8)) (a : Nat) (lacc accP : List Tok) : Prop where
  text : T = pre ++ l ++ suf
  place : i = pre.length + a
  le : a ≤ l.length
  no : No10 l
  rest : (suf = [] ∧ ls = []) ∨ ∃ r, suf = 10 :: r ∧ lns r = ls
  head : pre = [] ∨ ∃ p, pre = p ++ [10]
  toks : acc = accP ++ lacc.map (shift pre.length)
  first : lacc.isEmpty = (l.take a).all bl3
  res : TR = cont pre.length l a lacc ls accP
def RState (T : List UInt8) (TR : List Tok × Int × Nat) (i : Nat) (acc : List Tok) : Prop := ∃ pre l suf ls a lacc accP, RS T TR i acc pre l suf ls a lacc accP
theorem toksGo_cont (l : List UInt8) (ls : List (List UInt8)) (b : Nat) (acc : List Tok) : toksGo (l :: ls) b acc = cont b l 0 [] ls acc := by
  rw [toksGo, cont]; rfl
theorem RState.start (T : List UInt8) : RState T (toksRes T) 0 [] := by
  cases h : lns T with
  | nil => exact absurd h (lns_ne T)
  | cons l ls =>
    have hno := lns_no10 T l (by rw [h]; exact List.mem_cons_self ..)
    have hr : toksRes T = cont 0 l 0 [] ls [] := by unfold toksRes; rw [h]; exact toksGo_cont l ls 0 []
    rcases lns_form T l ls h with ⟨h1, h2⟩ | ⟨r, h1, h2⟩
    · exact ⟨[], l, [], ls, 0, [], [], by simp [h2], rfl, by omega, hno, .inl ⟨rfl, h1⟩, .inl rfl, rfl, rfl, hr⟩
    · exact ⟨[], l, 10 :: r, ls, 0, [], [], by simp [h1], rfl, by omega, hno, .inr ⟨r, rfl, h2⟩, .inl rfl, rfl, rfl, hr⟩
theorem RState.blank {T : List UInt8} {TR : List Tok × Int × Nat} {i : Nat} {acc : List Tok} (h : RState T TR i acc) (hi : i < T.length) (hb : bl3 T[i] = true) : RState T TR (i + 1) acc := by
  obtain ⟨pre, l, suf, ls, a, lacc, accP, R⟩ := h
  have ht := R.text; have hp := R.place; have hle := R.le
  subst ht hp
  by_cases ha : a < l.length
  · have hc : (pre ++ l ++ suf)[pre.length + a] = l[a] := by
      rw [List.getElem_append_left (by simp; omega), List.getElem_append_right (by omega)]
      congr 1; omega
    rw [hc] at hb
    have hbl : isBl l[a] = true := by
      have h10 := R.no l[a] (List.getElem_mem ha)
      unfold bl3 at hb; unfold isBl
      have : (l[a] == 10) = false := by simpa using h10
      rw [this, Bool.or_false] at hb; exact hb
    refine ⟨pre, l, suf, ls, a + 1, lacc, accP, rfl, by omega, by omega, R.no, R.rest, R.head, R.toks, ?_, ?_⟩
    · rw [List.take_succ_eq_append_getElem ha, List.all_append, ← R.first]; simp [hb]
    · rw [R.res, cont, cont, skipB_hit l a ha hbl]
  · have hal : a = l.length := by omega
    rcases R.rest with ⟨h1, h2⟩ | ⟨r, h1, h2⟩
    · subst h1; simp at hi; omega
    · have hres := R.res
      rw [cont, skipB_end l a (by omega), lineGo_end _ _ _ _ (by omega), if_pos rfl] at hres
      cases hl : lns r with
      | nil => exact absurd hl (lns_ne r)
      | cons l' ls' =>
        have hno := lns_no10 r l' (by rw [hl]; exact List.mem_cons_self ..)
        rw [← h2, hl, toksGo_cont] at hres
        have hacc := R.toks
        simp only at hres
        rw [← hacc] at hres
        have e1 : pre.length + l.length + 1 = (pre ++ l ++ [10]).length := by simp; omega
        rw [e1] at hres
        rcases lns_form r l' ls' hl with ⟨h3, h4⟩ | ⟨r', h3, h4⟩
        · exact ⟨pre ++ l ++ [10], l', [], ls', 0, [], acc, by rw [h1, h4]; simp, by rw [hal]; simp; omega, by omega, hno, .inl ⟨rfl, h3⟩, .inr ⟨pre ++ l, rfl⟩, by simp, rfl, hres⟩
        · exact ⟨pre ++ l ++ [10], l', 10 :: r', ls', 0, [], acc, by rw [h1, h3]; simp, by rw [hal]; simp; omega, by omega, hno, .inr ⟨r', rfl, h4⟩, .inr ⟨pre ++ l, rfl⟩, by simp, rfl, hres⟩
theorem RState.done {T : List UInt8} {TR : List Tok × Int × Nat} {i : Nat} {acc : List Tok} (h : RState T TR i acc) (hi : T.length ≤ i) : TR = (acc, 0, 0) := by
  obtain ⟨pre, l, suf, ls, a, lacc, accP, R⟩ := h
  have ht := R.text; have hp := R.place; have hle := R.le
  subst ht hp
  have hs : suf = [] := by
    have : suf.length = 0 := by simp at hi; omega
    exact List.eq_nil_of_length_eq_zero this
  rcases R.rest with ⟨h1, h2⟩ | ⟨r, h1, _⟩
  · have hal : l.length ≤ a := by simp [h1] at hi; omega
    rw [R.res, cont, skipB_end l a hal, lineGo_end _ _ _ _ hal, if_pos rfl, h2, R.toks]; rfl
  · rw [h1] at hs; cases hs
theorem tw_all (p : UInt8 → Bool) : ∀ (l : List UInt8), (∀ c ∈ l, p c = true) → l.takeWhile p = l := by
  intro l
  induction l with
  | nil => intro _; rfl
  | cons c l ih => intro h; rw [List.takeWhile_cons, if_pos (h c (List.mem_cons_self ..)), ih fun x hx => h x (List.mem_cons_of_mem _ hx)]
theorem alB_line {pre l suf : List UInt8} (hh : pre = [] ∨ ∃ p, pre = p ++ [10]) (hn : No10 l) : ∀ a, a ≤ l.length → alB (pre ++ l ++ suf) (pre.length + a) = (l.take a).all bl3 := by
  intro a
  induction a with
  | zero =>
    intro _
    rcases hh with rfl | ⟨p, rfl⟩
    · rfl
    · simp only [List.length_append, List.length_singleton, Nat.add_zero, List.take_zero, List.all_nil]
      rw [alB, if_pos]
      simp [List.getD_eq_getElem?_getD]
  | succ a ih =>
    intro ha
    have ha' : a < l.length := by omega
    have hg : (pre ++ l ++ suf).getD (pre.length + a) 0 = l[a] := by
      rw [List.getD_eq_getElem?_getD, List.append_assoc, List.getElem?_append_right (by omega), Nat.add_sub_cancel_left, List.getElem?_append_left ha', List.getElem?_eq_getElem ha']; rfl
    rw [← Nat.add_assoc, alB, hg, if_neg (hn _ (List.getElem_mem ha')), ih (by omega), List.take_succ_eq_append_getElem ha', List.all_append]
    cases hb : bl3 l[a] <;> simp [hb]
theorem endsEl_shift (b : Nat) (xs : List Tok) (ys : List Tok) (h : xs ≠ []) : endsEl (ys ++ xs.map (shift b)) = endsEl xs := by
  unfold endsEl
  rw [List.getLast?_append, List.getLast?_map]
  cases hx : xs.getLast? with
  | none => exact absurd (List.getLast?_eq_none_iff.1 hx) h
  | some x => rfl
theorem readTok_err (c : UInt8) (t : List UInt8) : (readTok (c :: t)).2.2 ≠ 0 → (c = 34 → (readTok (c :: t)).2.2 = 3) ∧ (c ≠ 34 → (readTok (c :: t)).2.2 = 4) := by
  refine readTok_P (fun r => r.2.2 ≠ 0 → (c = 34 → r.2.2 = 3) ∧ (c ≠ 34 → r.2.2 = 4)) (c :: t) ?_ ?_ ?_ ?_ ?_ ?_ ?_ ?_ ?_ ?_ ?_ ?_
  · intro _ h; exact absurd rfl h
  · intro _ h; exact absurd rfl h
  · intro _ h; exact absurd rfl h
  · intro h2 h
    have hc : c = 35 := by
      have := beq_iff_eq.1 h2
      cases t with
      | nil => simp at this
      | cons d t => simp at this; exact this.1
    unfold enE at h ⊢
    by_cases h0 : blkLen (c :: t) = 0
    · simp [h0]; intro h3; rw [hc] at h3; exact absurd h3 (by decide)
    · simp [h0] at h
  · intro _ h; exact absurd rfl h
  · intro _ h; exact absurd rfl h
  · intro _ h; exact absurd rfl h
  · intro _ h; exact absurd rfl h
  · intro _ _ h; exact absurd rfl h
  · intro _ h; exact absurd rfl h
  · intro h2 h
    have hc : c = 34 := (h0_iff c t 34).1 h2
    unfold enE at h ⊢
    by_cases h0 : strLen (c :: t) = 0
    · simp [h0]; exact hc
    · simp [h0] at h
  · intro _ _ _ _ _ _ _ _ _ _ h; exact absurd rfl h
theorem readTok_5 (c : UInt8) (t : List UInt8) : (readTok (c :: t)).1 = 5 → (readTok (c :: t)).2.1 = trimLen (c :: t) ∧ (readTok (c :: t)).2.2 = 0 := by
  refine readTok_P (fun r => r.1 = 5 → r.2.1 = trimLen (c :: t) ∧ r.2.2 = 0) (c :: t) ?_ ?_ ?_ ?_ ?_ ?_ ?_ ?_ ?_ ?_ ?_ ?_
  · intro _ h; simp at h
  · intro _ h; simp at h
  · intro _ h; simp at h
  · intro _ h; simp only [enK] at h; split at h <;> simp at h
  · intro _ h; simp at h
  · intro _ h; simp at h
  · intro _ h; simp at h
  · intro _ h; simp at h
  · intro _ _ h; simp at h
  · intro _ _; exact ⟨rfl, rfl⟩
  · intro _ h; simp only [enK] at h; split at h <;> simp at h
  · intro _ _ _ _ _ _ _ _ _ _ h; simp at h
/-- The step at a token. -/
theorem RState.step {T : List UInt8} {TR : List Tok × Int × Nat} {i : Nat} {acc : List Tok} (h : RState T TR i acc) (hi : i < T.length) (hb : bl3 T[i] = false) :
    ∃ t suf, T.drop i = (T[i] :: t) ++ suf ∧ Suf suf ∧ No10 (T[i] :: t) ∧ isBl T[i] = false ∧
      ∀ kd n er, readTok (T[i] :: t) = (kd, n, er) →
        (er ≠ 0 → TR = ([], er, i)) ∧
        (er = 0 → 1 ≤ n ∧ n ≤ (T[i] :: t).length ∧
          (kd = 5 → n = trimLen (T[i] :: t)) ∧
          RState T TR (if kd = 5 then i + (T[i] :: t).length else i + n) (acc ++ [⟨kd, (T[i] :: t).take n, i, (kd == 5) && (!(alB T i) && endsEl acc)⟩]) ∧ (alB T i = false → acc ≠ [])) := by
  obtain ⟨pre, l, suf, ls, a, lacc, accP, R⟩ := h
  have ht := R.text; have hp := R.place; have hle := R.le
  subst ht hp
  have ha : a < l.length := by
    by_cases ha : a < l.length
    · exact ha
    · exfalso
      rcases R.rest with ⟨h1, _⟩ | ⟨r, h1, _⟩
      · subst h1; simp at hi; omega
      · have : (pre ++ l ++ suf)[pre.length + a] = 10 := by
          have : (pre ++ l ++ suf)[pre.length + a]? = some 10 := by
            rw [h1, List.append_assoc, List.getElem?_append_right (by omega), Nat.add_sub_cancel_left, List.getElem?_append_right (by omega), show a - l.length = 0 by omega]; rfl
          rw [List.getElem?_eq_getElem hi] at this
          exact Option.some.inj this
        rw [this] at hb; simp [bl3] at hb
  have hc : (pre ++ l ++ suf)[pre.length + a] = l[a] := by
    rw [List.getElem_append_left (by simp; omega), List.getElem_append_right (by omega)]
    congr 1; omega
  rw [hc] at hb ⊢
  have hbl : isBl l[a] = false := by
    unfold bl3 at hb; unfold isBl
    simp only [Bool.or_eq_false_iff] at hb ⊢
    exact hb.1
  have hdl : l.drop a = l[a] :: l.drop (a + 1) := List.drop_eq_getElem_cons ha
  have hal := alB_line (suf := suf) R.head R.no a (by omega)
  refine ⟨l.drop (a + 1), suf, ?_, ?_, ?_, hbl, ?_⟩
  · rw [List.append_assoc, ← List.drop_drop, List.drop_left, List.drop_append_of_le_length (by omega), hdl]
  · rcases R.rest with ⟨h1, _⟩ | ⟨r, h1, _⟩
    · exact .inl h1
    · exact .inr ⟨r, h1⟩
  · rw [← hdl]; exact fun c hc => R.no c (List.mem_of_mem_drop hc)
  · intro kd n er hr
    rw [← hdl] at hr ⊢
    have hres := R.res
    rw [cont, skipB_miss l a ha hbl] at hres
    refine ⟨fun her => ?_, fun her => ?_⟩
    · rw [lineGo_bad l _ a lacc ha (by omega) (by rw [hr]; exact her), hr] at hres
      simp only at hres
      rw [if_neg her] at hres
      exact hres
    · subst her
      have ho := readTok_ok l[a] (l.drop (a + 1)) hbl
      rw [← hdl, hr] at ho
      have ho := ho rfl
      simp only [List.length_drop] at ho
      have h5 : kd = 5 → n = trimLen (l.drop a) := by
        intro h5
        have := readTok_5 l[a] (l.drop (a + 1))
        rw [← hdl, hr] at this
        exact (this h5).1
      have hbeh : ((kd == 5) && (!(alB (pre ++ l ++ suf) (pre.length + a)) && endsEl acc)) = ((kd == 5) && endsEl lacc) := by
        rw [hal, ← R.first, R.toks]
        cases hl : lacc with
        | nil => simp [endsEl]
        | cons x xs => rw [endsEl_shift _ _ _ (by simp)]; simp
      rw [hbeh]
      have hsk := skipB_le l (a + n) (by omega)
      rw [lineGo_on l _ a lacc ha (by rw [hr])] at hres
      simp only [hr] at hres
      rw [lineGo_fuel l l.length (l.length + 1) (skipB l (a + n)) _ (by omega) (by omega) (fun h => skipB_at _ _ h)] at hres
      refine ⟨ho.1, by rw [List.length_drop]; omega, h5, ?_, ?_⟩
      · have htk : acc ++ [(⟨kd, (l.drop a).take n, ((pre.length + a : Nat) : Int), (kd == 5) && endsEl lacc⟩ : Tok)] = accP ++ (lacc ++ [(⟨kd, (l.drop a).take n, (a : Int), (kd == 5) && endsEl lacc⟩ : Tok)]).map (shift pre.length) := by
          rw [R.toks, List.map_append, List.append_assoc]
          simp only [List.map_cons, List.map_nil, shift]
          congr 3
          simp; omega
        rw [htk]
        have hne : ∀ b, a < b → b ≤ l.length → (lacc ++ [(⟨kd, (l.drop a).take n, (a : Int), (kd == 5) && endsEl lacc⟩ : Tok)]).isEmpty = (l.take b).all bl3 := by
          intro b hb1 hb2
          have : (l.take b).all bl3 = false := by
            rw [List.all_eq_false]
            exact ⟨l[a], by rw [List.mem_take_iff_getElem]; exact ⟨a, by omega, rfl⟩, by simp [hb]⟩
          rw [this]; simp
        by_cases hk : kd = 5
        · rw [if_pos hk]
          have htr := trimRightS_eq (l.drop a)
          have hend : skipB l (a + n) = l.length := by
            have hall : ∀ c ∈ l.drop (a + n), isBl c = true := by
              have := htr.2.2
              rw [← h5 hk, List.drop_drop] at this
              exact this
            unfold skipB blN
            have : (l.drop (a + n)).takeWhile isBl = l.drop (a + n) := by
              exact tw_all isBl _ hall
            rw [this, List.length_drop]; omega
          refine ⟨pre, l, suf, ls, l.length, _, accP, rfl, by rw [List.length_drop]; omega, by omega, R.no, R.rest, R.head, rfl, hne _ (by omega) (by omega), ?_⟩
          rw [hres, cont, skipB_end l l.length (by omega), hend]
        · rw [if_neg hk]
          refine ⟨pre, l, suf, ls, a + n, _, accP, rfl, by omega, by omega, R.no, R.rest, R.head, rfl, hne _ (by omega) (by omega), ?_⟩
          rw [hres, cont]
      · intro hf
        rw [hal, ← R.first] at hf
        rw [R.toks]
        intro he
        have := List.append_eq_nil_iff.1 he
        rw [List.map_eq_nil_iff] at this
        rw [this.2] at hf; simp at hf
theorem RState.le {T : List UInt8} {TR : List Tok × Int × Nat} {i : Nat} {acc : List Tok} (h : RState T TR i acc) : i ≤ T.length := by
  obtain ⟨pre, l, suf, ls, a, lacc, accP, R⟩ := h
  have hp := R.place; have hle := R.le; have ht := R.text
  rw [ht, hp]; simp; omega
end Sc
end Go.Proofs.YtigdfhcmhidhbaaDoor
