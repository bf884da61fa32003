/- Plain functions: a text's lines and tokens. No program here. -/
import Derived.Test.YtigdfhcmhidhbaaDoorPlainB
import Derived.Lib.SplitLaws
namespace Go.Proofs.YtigdfhcmhidhbaaDoor
open Go.RowKit
namespace Sc
/-- A text's lines. -/
def lns : List UInt8 → List (List UInt8)
  | [] => [[]]
  | c :: t => if c = 10 then [] :: lns t else match lns t with | [] => [[c]] | x :: xs => (c :: x) :: xs
theorem splitK_lns : ∀ (l : List UInt8) (k : Nat), Lib.count l [10] = k → Lib.splitK [10] 0 k l = lns l := by
  intro l
  induction l with
  | nil => intro k hk; subst hk; rfl
  | cons c t ih =>
    intro k hk
    by_cases hc : c = 10
    · subst hc
      rw [Lib.count_cons_eq] at hk
      subst hk
      have hi : Lib.index (10 :: t) [10] = 0 := by simp [Lib.index]
      rw [show 1 + Lib.count t [10] = Lib.count t [10] + 1 by omega, Lib.splitK, hi]
      simp [lns, ih _ rfl]
    · rw [Lib.count_cons_ne _ _ _ hc] at hk
      have h := ih k hk
      have hp : ([10] : List UInt8).isPrefixOf (c :: t) = false := by simp [List.isPrefixOf, Ne.symm hc]
      have hi : Lib.index (c :: t) [10] = if Lib.index t [10] == -1 then -1 else Lib.index t [10] + 1 := by
        rw [Lib.index, hp]; simp
      rw [lns, if_neg hc]
      cases k with
      | zero =>
        rw [Lib.splitK] at h
        rw [← h]; rfl
      | succ k =>
        rw [Lib.splitK] at h
        rw [Lib.splitK]
        by_cases hm : Lib.index t [10] = -1
        · rw [if_pos (by simpa using hm)] at h
          rw [← h, hi]; simp [hm]
        · have hg : 0 ≤ Lib.index t [10] := by
            have := Lib.index_ge t [10]; omega
          rw [if_neg (by simpa using hm)] at h
          rw [if_neg (by simpa using hm)] at hi
          rw [hi, ← h, if_neg (by simp; omega)]
          obtain ⟨i, hi2⟩ := Int.eq_ofNat_of_zero_le hg
          rw [hi2]
          have : ((i : Int) + 1).toNat = i + 1 := by omega
          rw [this]; simp
theorem splitB_lns (s : ByteArray) : (Lib.splitB ⟨#[10]⟩ 0 (Lib.countB s ⟨#[10]⟩) s).map (·.data.toList) = lns s.data.toList := by
  rw [Lib.splitB_data]; exact splitK_lns _ _ rfl

def shift (b : Nat) (t : Tok) : Tok := { t with place := t.place + b }
/-- readTokens: from a line on, that begins at b. -/
def toksGo : List (List UInt8) → Nat → List Tok → List Tok × Int × Nat
  | [], _, acc => (acc, 0, 0)
  | l :: ls, b, acc => if (lineRes l).2.1 = 0 then toksGo ls (b + l.length + 1) (acc ++ (lineRes l).1.map (shift b)) else ([], (lineRes l).2.1, b + (lineRes l).2.2)
def toksRes (l : List UInt8) : List Tok × Int × Nat := toksGo (lns l) 0 []

/-- Tokens of a line lie in it. -/
def InLine (l : List UInt8) (ts : List Tok) : Prop := ∀ t ∈ ts, 0 ≤ t.place ∧ t.place < l.length
theorem lineGo_inv (l : List UInt8) : ∀ (f a : Nat) (acc : List Tok), InLine l acc → acc.length ≤ a → a ≤ l.length → (a < l.length → ∀ h : a < l.length, isBl l[a] = false) →
    InLine l (lineGo l f a acc).1 ∧ (lineGo l f a acc).1.length ≤ l.length ∧ (lineGo l f a acc).2.2 ≤ l.length := by
  intro f
  induction f with
  | zero => intro a acc h1 h2 h3 _; exact ⟨h1, by simp only [lineGo]; omega, by simp [lineGo]⟩
  | succ f ih =>
    intro a acc h1 h2 h3 h4
    by_cases ha : l.length ≤ a
    · rw [lineGo_end _ _ _ _ ha]; exact ⟨h1, by simp only; omega, by simp⟩
    · by_cases he : (readTok (l.drop a)).2.2 = 0
      · rw [lineGo_on _ _ _ _ (by omega) he]
        have hal : a < l.length := by omega
        have hok : 1 ≤ (readTok (l.drop a)).2.1 ∧ a + (readTok (l.drop a)).2.1 ≤ l.length := by
          have hd := List.drop_eq_getElem_cons hal
          have := readTok_ok l[a] (l.drop (a + 1)) (h4 hal hal)
          rw [← hd] at this
          have t := this he
          rw [List.length_drop] at t
          omega
        have hsk := skipB_le l (a + (readTok (l.drop a)).2.1) hok.2
        refine ih _ _ ?_ (by simp; omega) hsk.2 (fun h _ => skipB_at _ _ h)
        intro t ht
        rcases List.mem_append.1 ht with ht | ht
        · exact h1 t ht
        · simp at ht; subst ht; simp; omega
      · rw [lineGo_bad _ _ _ _ (by omega) (by omega) he]; exact ⟨fun t ht => by simp at ht, by simp, by simp only; omega⟩
theorem lineRes_inv (l : List UInt8) : InLine l (lineRes l).1 ∧ (lineRes l).1.length ≤ l.length ∧ (lineRes l).2.2 ≤ l.length :=
  lineGo_inv l _ _ _ (fun t ht => by simp at ht) (by simp) (skipB_le l 0 (by simp)).2 (fun h _ => skipB_at _ _ h)

theorem lns_ne (l : List UInt8) : lns l ≠ [] := by
  cases l with
  | nil => simp [lns]
  | cons c t => rw [lns]; split <;> (try split) <;> simp
/-- How long the lines are, together. -/
def tot : List (List UInt8) → Nat
  | [] => 0
  | l :: ls => l.length + 1 + tot ls
theorem tot_lns (l : List UInt8) : tot (lns l) = l.length + 1 := by
  induction l with
  | nil => rfl
  | cons c t ih =>
    rw [lns]
    split
    · simp [tot, ih]; omega
    · cases h : lns t with
      | nil => exact absurd h (lns_ne t)
      | cons x xs => rw [h] at ih; simp [tot] at ih ⊢; omega
theorem lns_ascii (l : List UInt8) (h : Ascii l) : ∀ x ∈ lns l, Ascii x := by
  have key : ∀ (l : List UInt8), (∀ b ∈ l, b.toNat < 128) → ∀ x ∈ lns l, ∀ b ∈ x, b.toNat < 128 := by
    intro l
    induction l with
    | nil => intro _ x hx b hb; simp [lns] at hx; subst hx; simp at hb
    | cons c t ih =>
      intro h x hx b hb
      have h1 := ih (fun b hb => h b (List.mem_cons_of_mem _ hb))
      rw [lns] at hx
      split at hx
      · rcases List.mem_cons.1 hx with rfl | hx
        · simp at hb
        · exact h1 x hx b hb
      · cases hl : lns t with
        | nil => exact absurd hl (lns_ne t)
        | cons y ys =>
          rw [hl] at hx h1
          rcases List.mem_cons.1 hx with rfl | hx
          · rcases List.mem_cons.1 hb with rfl | hb
            · exact h b (List.mem_cons_self ..)
            · exact h1 y (List.mem_cons_self ..) b hb
          · exact h1 x (List.mem_cons_of_mem _ hx) b hb
  intro x hx j b hb
  exact key l (fun b hb => by obtain ⟨j, hj⟩ := List.getElem?_of_mem hb; exact h j b hj) x hx b (List.mem_of_getElem? hb)
end Sc
end Go.Proofs.YtigdfhcmhidhbaaDoor
