/- Plain laws: what tokens look like; how deep lists are. No program here. -/
import Derived.Test.YtigdfhcmhidhbaaDoorPlainS
namespace Go.Proofs.YtigdfhcmhidhbaaDoor
open Go.RowKit
namespace Sc
/-- What a token looks like. -/
def Shape (t : Tok) : Prop := 0 < t.text.length ∧ (t.text = [44] → t.kind = 4) ∧ (t.kind = 2 ∨ t.kind = 4 → t.text.headD 0 ≠ 64) ∧ (t.kind = 1 ∨ t.kind = 2 ∨ t.kind = 3 ∨ t.kind = 4 ∨ t.kind = 5)
theorem take2_head {c : UInt8} {t : List UInt8} {x y : UInt8} (h : (c :: t).take 2 == [x, y]) : c = x := by
  have := beq_iff_eq.1 h
  cases t with
  | nil => simp at this
  | cons d t => simp at this; exact this.1
theorem readTok_shape (c : UInt8) (t : List UInt8) : 1 ≤ (readTok (c :: t)).2.1 →
    (((c :: t).take (readTok (c :: t)).2.1) = [44] → (readTok (c :: t)).1 = 4) ∧ ((readTok (c :: t)).1 = 2 ∨ (readTok (c :: t)).1 = 4 → ((c :: t).take (readTok (c :: t)).2.1).headD 0 ≠ 64) := by
  have hd : ∀ n, 1 ≤ n → ((c :: t).take n).headD 0 = c := by
    intro n hn; cases n with
    | zero => omega
    | succ n => rfl
  have h44 : ∀ n, 1 ≤ n → (c :: t).take n = [44] → c = 44 := by
    intro n hn h; have := hd n hn; rw [h] at this; exact this.symm
  refine readTok_P (fun r => 1 ≤ r.2.1 → ((c :: t).take r.2.1 = [44] → r.1 = 4) ∧ (r.1 = 2 ∨ r.1 = 4 → ((c :: t).take r.2.1).headD 0 ≠ 64)) (c :: t) ?_ ?_ ?_ ?_ ?_ ?_ ?_ ?_ ?_ ?_ ?_ ?_
  · intro h hn; have hc := take2_head h
    exact ⟨fun e => by have := h44 _ hn e; rw [hc] at this; exact absurd this (by decide), fun _ => by rw [hd _ hn, hc]; decide⟩
  · intro h hn; have hc := take2_head h
    exact ⟨fun _ => rfl, fun _ => by rw [hd _ hn, hc]; decide⟩
  · intro h hn; have hc := take2_head h
    exact ⟨fun _ => rfl, fun _ => by rw [hd _ hn, hc]; decide⟩
  · intro h hn; have hc := take2_head h
    exact ⟨fun e => by have := h44 _ hn e; rw [hc] at this; exact absurd this (by decide), fun _ => by rw [hd _ hn, hc]; decide⟩
  · intro h hn; have hc := (h0_iff c t 40).1 h
    exact ⟨fun e => by have := h44 _ hn e; rw [hc] at this; exact absurd this (by decide), fun _ => by rw [hd _ hn, hc]; decide⟩
  · intro h hn; have hc := (h0_iff c t 41).1 h
    exact ⟨fun e => by have := h44 _ hn e; rw [hc] at this; exact absurd this (by decide), fun _ => by rw [hd _ hn, hc]; decide⟩
  · intro h hn; have hc := (h0_iff c t 39).1 h
    exact ⟨fun _ => rfl, fun _ => by rw [hd _ hn, hc]; decide⟩
  · intro h hn; have hc := (h0_iff c t 96).1 h
    exact ⟨fun _ => rfl, fun _ => by rw [hd _ hn, hc]; decide⟩
  · intro h _ hn; have hc := (h0_iff c t 44).1 h
    exact ⟨fun _ => rfl, fun _ => by rw [hd _ hn, hc]; decide⟩
  · intro h hn; have hc := (h0_iff c t 59).1 h
    exact ⟨fun e => by have := h44 _ hn e; rw [hc] at this; exact absurd this (by decide), fun _ => by rw [hd _ hn, hc]; decide⟩
  · intro h hn; have hc := (h0_iff c t 34).1 h
    exact ⟨fun e => by have := h44 _ hn e; rw [hc] at this; exact absurd this (by decide), fun _ => by rw [hd _ hn, hc]; decide⟩
  · intro _ _ _ _ _ _ _ h9 _ _ hn
    refine ⟨fun e => absurd ((h0_iff c t 44).2 (h44 _ hn e)) (by simpa using h9), fun h => by simp at h⟩
theorem readTok_kind (c : UInt8) (t : List UInt8) : 1 ≤ (readTok (c :: t)).2.1 →
    ((readTok (c :: t)).1 = 1 ∨ (readTok (c :: t)).1 = 2 ∨ (readTok (c :: t)).1 = 3 ∨ (readTok (c :: t)).1 = 4 ∨ (readTok (c :: t)).1 = 5) := by
  refine readTok_P (fun r => 1 ≤ r.2.1 → (r.1 = 1 ∨ r.1 = 2 ∨ r.1 = 3 ∨ r.1 = 4 ∨ r.1 = 5)) (c :: t) ?_ ?_ ?_ ?_ ?_ ?_ ?_ ?_ ?_ ?_ ?_ ?_
  · intro _ _; simp
  · intro _ _; simp
  · intro _ _; simp
  · intro _ h; left; simp only [enK] at h ⊢; rw [if_neg (by omega)]
  · intro _ _; simp
  · intro _ _; simp
  · intro _ _; simp
  · intro _ _; simp
  · intro _ _ _; simp
  · intro _ _; simp
  · intro _ h; left; simp only [enK] at h ⊢; rw [if_neg (by omega)]
  · intro _ _ _ _ _ _ _ _ _ _ _; simp
theorem lineGo_shape (l : List UInt8) : ∀ (f a : Nat) (acc : List Tok), (∀ t ∈ acc, Shape t) → (∀ h : a < l.length, isBl l[a] = false) → ∀ t ∈ (lineGo l f a acc).1, Shape t := by
  intro f
  induction f with
  | zero => intro a acc h _ t ht; exact h t ht
  | succ f ih =>
    intro a acc h h4 t ht
    by_cases ha : l.length ≤ a
    · rw [lineGo_end _ _ _ _ ha] at ht; exact h t ht
    · by_cases he : (readTok (l.drop a)).2.2 = 0
      · rw [lineGo_on _ _ _ _ (by omega) he] at ht
        have hal : a < l.length := by omega
        have hd := List.drop_eq_getElem_cons hal
        have hok := readTok_ok l[a] (l.drop (a + 1)) (h4 hal)
        rw [← hd] at hok
        have hok := hok he
        have hsh := readTok_shape l[a] (l.drop (a + 1))
        rw [← hd] at hsh
        have hsh := hsh hok.1
        have hkd := readTok_kind l[a] (l.drop (a + 1))
        rw [← hd] at hkd
        have hkd := hkd hok.1
        refine ih _ _ ?_ (fun h => skipB_at _ _ h) t ht
        intro x hx
        rcases List.mem_append.1 hx with hx | hx
        · exact h x hx
        · simp at hx; subst hx
          exact ⟨by show 0 < ((l.drop a).take _).length; rw [List.length_take]; omega, hsh.1, hsh.2, hkd⟩
      · rw [lineGo_bad _ _ _ _ (by omega) (by omega) he] at ht; simp at ht
theorem toksGo_shape : ∀ (ls : List (List UInt8)) (b : Nat) (acc : List Tok), (∀ t ∈ acc, Shape t) → ∀ t ∈ (toksGo ls b acc).1, Shape t := by
  intro ls
  induction ls with
  | nil => intro b acc h t ht; exact h t ht
  | cons l ls ih =>
    intro b acc h t ht
    rw [toksGo] at ht
    split at ht
    · refine ih _ _ ?_ t ht
      intro x hx
      rcases List.mem_append.1 hx with hx | hx
      · exact h x hx
      · obtain ⟨y, hy, rfl⟩ := List.mem_map.1 hx
        exact lineGo_shape l _ _ _ (fun t ht => by simp at ht) (fun h => skipB_at _ _ h) y hy
    · simp at ht
theorem toksRes_shape (l : List UInt8) : ∀ t ∈ (toksRes l).1, Shape t := toksGo_shape _ _ _ (fun t ht => by simp at ht)

/-- How deep it is behind a token. -/
def dstep (d : Int) (t : Tok) : Int := d + (if t.kind = 2 then 1 else 0) - (if t.kind = 3 then 1 else 0)
def dpGo : List Tok → Int → Int
  | [], d => d
  | t :: ts, d => if dstep d t < 0 then dstep d t else dpGo ts (dstep d t)
theorem dpGo_snoc : ∀ (P : List Tok) (t : Tok) (d : Int), 0 ≤ d → dpGo (P ++ [t]) d = if dpGo P d < 0 then dpGo P d else dstep (dpGo P d) t := by
  intro P
  induction P with
  | nil =>
    intro t d hd
    rw [List.nil_append, dpGo, dpGo, dpGo, if_neg (by omega : ¬ d < 0)]
    split <;> rfl
  | cons x P ih =>
    intro t d hd
    rw [List.cons_append, dpGo, dpGo]
    by_cases h : dstep d x < 0
    · rw [if_pos h, if_pos h, if_pos h]
    · rw [if_neg h, if_neg h, ih t _ (by omega)]
/-- Where the open lists begin. -/
def Stk (P : List Tok) (st : List Int) : Prop := dpGo P 0 = st.length ∧
  ∀ q (hq : q < st.length), ∃ j, ∃ hj : j < P.length, P[j].kind = 2 ∧ P[j].place = st[q] ∧ dpGo (P.take j) 0 = q ∧ ∀ i, j < i → i ≤ P.length → (q : Int) + 1 ≤ dpGo (P.take i) 0
theorem Stk.nil : Stk [] [] := ⟨rfl, fun q hq => by simp at hq⟩
theorem Stk.old {P : List Tok} {st st' : List Int} {t : Tok} (h : Stk P st) (hp : dpGo (P ++ [t]) 0 = st'.length) (hle : st'.length ≤ st.length + 1)
    (hst : ∀ q (h1 : q < st.length) (h2 : q < st'.length), st'[q] = st[q]) (hnew : ∀ q (hq : q < st'.length), q = st.length → t.kind = 2 ∧ t.place = st'[q]) : Stk (P ++ [t]) st' := by
  refine ⟨hp, fun q hq => ?_⟩
  by_cases hq2 : q < st.length
  · obtain ⟨j, hj, h1, h2, h3, h4⟩ := h.2 q hq2
    refine ⟨j, by simp; omega, ?_, ?_, ?_, fun i hi1 hi2 => ?_⟩
    · rw [List.getElem_append_left hj]; exact h1
    · rw [List.getElem_append_left hj, h2, hst q hq2 hq]
    · rw [List.take_append_of_le_length (by omega)]; exact h3
    · by_cases hi3 : i ≤ P.length
      · rw [List.take_append_of_le_length hi3]; exact h4 i hi1 hi3
      · rw [List.take_of_length_le (by simp at hi2 ⊢; omega), hp]; omega
  · have e : q = st.length := by omega
    obtain ⟨h1, h2⟩ := hnew q hq e
    refine ⟨P.length, by simp, ?_, ?_, ?_, fun i hi1 hi2 => ?_⟩
    · simp; exact h1
    · simp; exact h2
    · rw [List.take_left, h.1, e]
    · rw [List.take_of_length_le (by simp at hi2 ⊢; omega), hp]; omega
theorem dp_next {P : List Tok} {st : List Int} {t : Tok} (h : Stk P st) : dpGo (P ++ [t]) 0 = dstep st.length t := by
  rw [dpGo_snoc _ _ _ (by omega), h.1, if_neg (by omega)]
theorem Stk.push {P : List Tok} {st : List Int} {t : Tok} (h : Stk P st) (hk : t.kind = 2) : Stk (P ++ [t]) (st ++ [t.place]) := by
  refine h.old (by rw [dp_next h, dstep, if_pos hk, if_neg (by omega)]; simp) (by simp) (fun q h1 h2 => by rw [List.getElem_append_left h1]) (fun q hq e => ⟨hk, by subst e; simp⟩)
theorem Stk.pop {P : List Tok} {st : List Int} {t : Tok} (h : Stk P st) (hk : t.kind = 3) (hs : st.length ≠ 0) : Stk (P ++ [t]) st.dropLast := by
  refine h.old (by rw [dp_next h, dstep, if_neg (by omega), if_pos hk, List.length_dropLast]; omega) (by simp; omega) (fun q h1 h2 => by rw [List.getElem_dropLast]) (fun q hq e => by simp at hq; omega)
theorem Stk.stay {P : List Tok} {st : List Int} {t : Tok} (h : Stk P st) (h2 : t.kind ≠ 2) (h3 : t.kind ≠ 3) : Stk (P ++ [t]) st := by
  refine h.old (by rw [dp_next h, dstep, if_neg h2, if_neg h3]; omega) (by omega) (fun q h1 h2 => rfl) (fun q hq e => by omega)
end Sc
end Go.Proofs.YtigdfhcmhidhbaaDoor
