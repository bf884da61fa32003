/- Walks: the program's elements in memory; its reader. -/
import Derived.Test.YtigdfhcmhidhbaaDoorLayB
import Derived.Test.YtigdfhcmhidhbaaDoorOwn
import Derived.Test.YtigdfhcmhidhbaaDoorPlainK
namespace Go.Proofs.YtigdfhcmhidhbaaDoor
open Go.RowKit
namespace Sc
/-- The length of the flat text, or -1. -/
def El.fl (e : El) : Int := if e.com then -1 else e.flen
end Sc
def hd (t : Sc.Tok) (p : Int) (v : Value) (f : Int) : List Value := [.int .i64 t.kind, .string ⟨t.text.toArray⟩, .int .i64 p, .bool t.behind, v, .int .i64 f]
/-- A row of n elements, whose cells are as Q says; its block is as A says. -/
def RowV (A : Nat → Prop) (w : World) (n : Nat) (v : Value) (Q : List Value → Prop) : Prop :=
  (v = .slice none 0 0 ∧ n = 0 ∧ Q []) ∨ ∃ g cap cur, v = .slice (some ⟨g, 0, none⟩) n cap ∧ A g ∧ w.heap[g]? = some (.cells cur 85 (0, 0)) ∧ n ≤ cap ∧ cap ≤ maxLen ∧ n * 6 ≤ cur.size ∧ Q (cur.toList.take (n * 6))
mutual
def ElAt (A : Nat → Prop) (w : World) : Sc.El → List Value → Prop
  | .leaf t, cs => ∃ p, cs = hd t p (.slice none 0 0) (Sc.El.leaf t).fl
  | .pre t e, cs => ∃ p v, cs = hd t p v (Sc.El.pre t e).fl ∧ RowV A w 1 v (ElAt A w e)
  | .lst o es c, cs => ∃ p v, cs = hd o p v (Sc.El.lst o es c).fl ∧ RowV A w es.length v (ElsAt A w es)
def ElsAt (A : Nat → Prop) (w : World) : List Sc.El → List Value → Prop
  | [], cs => cs = []
  | e :: es, cs => ∃ c1 c2, cs = c1 ++ c2 ∧ ElAt A w e c1 ∧ ElsAt A w es c2
end
theorem RowV.mono {A A' : Nat → Prop} {w w' : World} {n : Nat} {v : Value} {Q Q' : List Value → Prop} (h : RowV A w n v Q) (hA : ∀ k, A k → k < w.heap.size → A' k ∧ w'.heap[k]? = w.heap[k]?) (hQ : ∀ cs, Q cs → Q' cs) : RowV A' w' n v Q' := by
  rcases h with ⟨h1, h2, h3⟩ | ⟨g, cap, cur, h1, h2, h3, h4, h5, h6, h7⟩
  · exact .inl ⟨h1, h2, hQ _ h3⟩
  · have := hA g h2 (Array.getElem?_eq_some_iff.1 h3).1
    exact .inr ⟨g, cap, cur, h1, this.1, this.2.trans h3, h4, h5, h6, hQ _ h7⟩
mutual
theorem ElAt.mono {A A' : Nat → Prop} {w w' : World} (hA : ∀ k, A k → k < w.heap.size → A' k ∧ w'.heap[k]? = w.heap[k]?) : ∀ (e : Sc.El) (cs : List Value), ElAt A w e cs → ElAt A' w' e cs
  | .leaf _, _, h => by simpa only [ElAt] using h
  | .pre t e, cs, h => by
    simp only [ElAt] at h ⊢
    obtain ⟨p, v, h1, h2⟩ := h
    exact ⟨p, v, h1, h2.mono hA (fun cs h => ElAt.mono hA e cs h)⟩
  | .lst o es c, cs, h => by
    simp only [ElAt] at h ⊢
    obtain ⟨p, v, h1, h2⟩ := h
    exact ⟨p, v, h1, h2.mono hA (fun cs h => ElsAt.mono hA es cs h)⟩
theorem ElsAt.mono {A A' : Nat → Prop} {w w' : World} (hA : ∀ k, A k → k < w.heap.size → A' k ∧ w'.heap[k]? = w.heap[k]?) : ∀ (es : List Sc.El) (cs : List Value), ElsAt A w es cs → ElsAt A' w' es cs
  | [], _, h => by simpa only [ElsAt] using h
  | e :: es, cs, h => by
    simp only [ElsAt] at h ⊢
    obtain ⟨c1, c2, h1, h2, h3⟩ := h
    exact ⟨c1, c2, h1, ElAt.mono hA e c1 h2, ElsAt.mono hA es c2 h3⟩
end
theorem RowV.shape {A : Nat → Prop} {w : World} {v : Value} {n : Nat} {Q : List Value → Prop} (h : RowV A w n v Q) : ∃ ao cap, v = .slice ao n cap ∧ n ≤ cap := by
  rcases h with ⟨rfl, rfl, _⟩ | ⟨g, cap, cur, h1, _, _, h4, _⟩
  · exact ⟨_, _, rfl, by omega⟩
  · exact ⟨_, _, h1, h4⟩
theorem ElAt.form {A : Nat → Prop} {w : World} {e : Sc.El} {cs : List Value} (h : ElAt A w e cs) : ∃ p ao n cap, cs = hd e.first p (.slice ao n cap) e.fl := by
  cases e with
  | leaf t => simp only [ElAt] at h; obtain ⟨p, h⟩ := h; exact ⟨p, _, _, _, h⟩
  | pre t e => simp only [ElAt] at h; obtain ⟨p, v, h, h'⟩ := h; obtain ⟨ao, cap, rfl, _⟩ := h'.shape; exact ⟨p, _, _, _, h⟩
  | lst o es c => simp only [ElAt] at h; obtain ⟨p, v, h, h'⟩ := h; obtain ⟨ao, cap, rfl, _⟩ := h'.shape; exact ⟨p, _, _, _, h⟩
theorem ElAt.len {A : Nat → Prop} {w : World} {e : Sc.El} {cs : List Value} (h : ElAt A w e cs) : cs.length = 6 := by
  obtain ⟨p, ao, n, cap, rfl⟩ := h.form; rfl
theorem ElsAt.len {A : Nat → Prop} {w : World} : ∀ {es : List Sc.El} {cs : List Value}, ElsAt A w es cs → cs.length = es.length * 6
  | [], cs, h => by simp only [ElsAt] at h; subst h; rfl
  | e :: es, cs, h => by
    simp only [ElsAt] at h
    obtain ⟨c1, c2, rfl, h1, h2⟩ := h
    rw [List.length_append, h1.len, ElsAt.len h2, List.length_cons]; omega
theorem ElsAt.at {A : Nat → Prop} {w : World} : ∀ {es : List Sc.El} {cs : List Value}, ElsAt A w es cs → ∀ i (hi : i < es.length), ElAt A w es[i] ((cs.drop (i * 6)).take 6)
  | [], _, _, i, hi => by simp at hi
  | e :: es, cs, h, i, hi => by
    simp only [ElsAt] at h
    obtain ⟨c1, c2, rfl, h1, h2⟩ := h
    cases i with
    | zero =>
      have : ((c1 ++ c2).drop (0 * 6)).take 6 = c1 := by rw [Nat.zero_mul, List.drop_zero, ← h1.len, List.take_left]
      rw [this]; exact h1
    | succ i =>
      have : (c1 ++ c2).drop ((i + 1) * 6) = c2.drop (i * 6) := by
        rw [show (i + 1) * 6 = c1.length + i * 6 by rw [h1.len]; omega, List.drop_append, List.drop_eq_nil_of_le (Nat.le_add_right ..), List.nil_append, Nat.add_sub_cancel_left]
      rw [this]
      exact ElsAt.at h2 i (by simpa using hi)
theorem ElsAt.snoc {A : Nat → Prop} {w : World} : ∀ {es : List Sc.El} {cs : List Value} {e : Sc.El} {c : List Value}, ElsAt A w es cs → ElAt A w e c → ElsAt A w (es ++ [e]) (cs ++ c)
  | [], cs, e, c, h, k => by
    simp only [ElsAt] at h; subst h
    simp only [List.nil_append, ElsAt]
    exact ⟨c, [], by simp, k, rfl⟩
  | e' :: es, cs, e, c, h, k => by
    simp only [ElsAt] at h
    obtain ⟨c1, c2, rfl, h1, h2⟩ := h
    simp only [List.cons_append, ElsAt]
    exact ⟨c1, c2 ++ c, by simp, h1, ElsAt.snoc h2 k⟩

/-- The reader rb stands ahead of the i-th token. -/
def RdAt (rb g : Nat) (i n cap : Nat) (w : World) : Prop := ∃ ao c, w.heap[rb]? = some (.cells #[.slice ao (n - i) c] 90 (0, 0)) ∧ (i < n → ao = some ⟨g, i * 4, none⟩ ∧ c = cap - i)
theorem Fr.alloc {N x : Nat} {a w : World} (h : Fr N x a w) (hN : N ≤ w.heap.size) (o : Obj) : Fr N x a (w.alloc o) :=
  ⟨h.os, h.tape, h.output, by simp; have := h.size; omega, fun k hk hx => (Lib.alloc_old w o k (by omega)).trans (h.block k hk hx)⟩
theorem heap_set0 {w : World} {rb : Nat} {v u : Value} {T : TypeId} (h : w.heap[rb]? = some (.cells #[v] T (0, 0))) : (w.setCell ⟨rb, 0, none⟩ u).heap[rb]? = some (.cells #[u] T (0, 0)) := by
  simp [World.setCell, Array.getElem?_modify, h]
theorem RdAt.fr {rb g i n cap : Nat} {w w' : World} (h : RdAt rb g i n cap w) (hb : Below w.heap.size w w') : RdAt rb g i n cap w' := by
  obtain ⟨ao, c, h1, h2⟩ := h
  exact ⟨ao, c, (hb.block rb (Array.getElem?_eq_some_iff.1 h1).1).trans h1, h2⟩

set_option maxHeartbeats 1000000 in
theorem next_any (rb g i : Nat) (ts : List Sc.Tok) (cap B0 : Nat) (w : World) (h : Owns w B0 (.slice (some ⟨g, 0, none⟩) ts.length cap) ts) (hr : RdAt rb g i ts.length cap w) (hi : i < ts.length) :
    Calls Tryd.prog 79 #[.pointer (some ⟨rb, 0, none⟩)] w fun e w' => e = .returned (.agg #[.int .i64 ts[i].kind, .string ⟨ts[i].text.toArray⟩, .int .i64 ts[i].place, .bool ts[i].behind]) ∧ RdAt rb g (i + 1) ts.length cap w' ∧ Fr w.heap.size rb w w' := by
  obtain ⟨g', hg1, -, -, hg4, hcap, c0, c1, c2, c3⟩ := h.at i hi
  cases hg1
  obtain ⟨ao, cc, hr, hra⟩ := hr
  obtain ⟨rfl, rfl⟩ := hra hi
  have r0 : w.cell? ⟨rb, 0, none⟩ = some (.slice (some ⟨g, i * 4, none⟩) (ts.length - i) (cap - i)) := by rw [Lib.cell_of_heap hr]; rfl
  have f0 : w.frozen? ⟨rb, 0, none⟩ = false := Lib.frozen_of_heap hr 0
  generalize ts[i].kind = kk at *
  generalize ts[i].place = pp at *
  generalize ts[i].behind = bb at *
  generalize (⟨ts[i].text.toArray⟩ : ByteArray) = tt at *
  have hm : 0 < ts.length - i := by omega
  have hrl : rb < w.heap.size := (Array.getElem?_eq_some_iff.1 hr).1
  go_enter Tryd.func79, Tryd.ntmps79
  go_wp2
  all_goals refine bodyPost_ret (v := .agg #[.int .i64 kk, .string tt, .int .i64 pp, .bool bb]) (by simp [results, Tryd.results79, go_sem]) rfl ?_
  all_goals refine ⟨rfl, ⟨_, _, ((Lib.alloc_old _ _ _ (by simp [World.setCell]; omega)).trans ((Lib.alloc_old _ _ _ (by simpa [World.setCell] using hrl)).trans (heap_set0 hr))), fun hh => ?_⟩, (((Fr.refl _ _ _).set 0 none _).alloc (by simp [World.setCell]) _).alloc (by simp [World.setCell]) _⟩
  · exfalso; omega
  · exact ⟨by rw [Nat.add_mul], by omega⟩
end Go.Proofs.YtigdfhcmhidhbaaDoor
