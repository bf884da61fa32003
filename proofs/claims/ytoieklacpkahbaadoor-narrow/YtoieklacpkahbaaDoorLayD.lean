/- Walks: the program's elements in memory; its reader. -/
/- Walks: the program's elements: their flat lengths. -/
import Derived.Test.YtoieklacpkahbaaDoorLayB
import Derived.Test.YtoieklacpkahbaaDoorOwn
import Derived.Test.YtoieklacpkahbaaDoorPlainM
import Derived.Test.YtoieklacpkahbaaDoorPlainP
import Derived.Test.YtoieklacpkahbaaDoorWalkC
import Derived.BigQuiet
import Derived.Deep.QuietTactic
namespace Go.Proofs.YtoieklacpkahbaaDoor
open Go.RowKit
namespace Sc
/-- The length of the flat text, or -1. -/
def El.fl (e : El) : Int := if e.com then -1 else e.flen
end Sc
def hd (t : Sc.Tok) (p : Int) (v : Value) (f : Int) : List Value := [.int .i64 t.kind, .string ⟨t.text.toArray⟩, .int .i64 p, .bool t.behind, v, .int .i64 f]
/-- A row of n elements, whose cells are as Q says; its block is as A says. -/
def RowV (A : Nat → Prop) (w : World) (n : Nat) (v : Value) (Q : List Value → Prop) : Prop :=
  (v = .slice none 0 0 ∧ n = 0 ∧ Q []) ∨ ∃ g cap cur, v = .slice (some ⟨g, 0, none⟩) n cap ∧ A g ∧ w.heap[g]? = some (.cells cur 85 (0, 0)) ∧ n ≤ cap ∧ cap ≤ maxLen ∧ n * 6 ≤ cur.size ∧ Q (cur.toList.take (n * 6))
mutual
def ElAt (A : Nat → Prop) (w : World) : Sc.El → List Value → Prop
  | .leaf t, cs => ∃ p, cs = hd t p (.slice none 0 0) (Sc.El.leaf t).fl
  | .pre t e, cs => ∃ p v, cs = hd t p v (Sc.El.pre t e).fl ∧ RowV A w 1 v (ElAt A w e)
  | .lst o es c, cs => ∃ p v, cs = hd o p v (Sc.El.lst o es c).fl ∧ RowV A w es.length v (ElsAt A w es)
def ElsAt (A : Nat → Prop) (w : World) : List Sc.El → List Value → Prop
  | [], cs => cs = []
  | e :: es, cs => ∃ c1 c2, cs = c1 ++ c2 ∧ ElAt A w e c1 ∧ ElsAt A w es c2
end
theorem RowV.mono {A A' : Nat → Prop} {w w' : World} {n : Nat} {v : Value} {Q Q' : List Value → Prop} (h : RowV A w n v Q) (hA : ∀ k, A k → k < w.heap.size → A' k ∧ w'.heap[k]? = w.heap[k]?) (hQ : ∀ cs, Q cs → Q' cs) : RowV A' w' n v Q' := by
  rcases h with ⟨h1, h2, h3⟩ | ⟨g, cap, cur, h1, h2, h3, h4, h5, h6, h7⟩
  · exact .inl ⟨h1, h2, hQ _ h3⟩
  · have := hA g h2 (Array.getElem?_eq_some_iff.1 h3).1
    exact .inr ⟨g, cap, cur, h1, this.1, this.2.trans h3, h4, h5, h6, hQ _ h7⟩
mutual
theorem ElAt.mono {A A' : Nat → Prop} {w w' : World} (hA : ∀ k, A k → k < w.heap.size → A' k ∧ w'.heap[k]? = w.heap[k]?) : ∀ (e : Sc.El) (cs : List Value), ElAt A w e cs → ElAt A' w' e cs
  | .leaf _, _, h => by simpa only [ElAt] using h
  | .pre t e, cs, h => by
    simp only [ElAt] at h ⊢
    obtain ⟨p, v, h1, h2⟩ := h
    exact ⟨p, v, h1, h2.mono hA (fun cs h => ElAt.mono hA e cs h)⟩
  | .lst o es c, cs, h => by
    simp only [ElAt] at h ⊢
    obtain ⟨p, v, h1, h2⟩ := h
    exact ⟨p, v, h1, h2.mono hA (fun cs h => ElsAt.mono hA es cs h)⟩
theorem ElsAt.mono {A A' : Nat → Prop} {w w' : World} (hA : ∀ k, A k → k < w.heap.size → A' k ∧ w'.heap[k]? = w.heap[k]?) : ∀ (es : List Sc.El) (cs : List Value), ElsAt A w es cs → ElsAt A' w' es cs
  | [], _, h => by simpa only [ElsAt] using h
  | e :: es, cs, h => by
    simp only [ElsAt] at h ⊢
    obtain ⟨c1, c2, h1, h2, h3⟩ := h
    exact ⟨c1, c2, h1, ElAt.mono hA e c1 h2, ElsAt.mono hA es c2 h3⟩
end
theorem RowV.shape {A : Nat → Prop} {w : World} {v : Value} {n : Nat} {Q : List Value → Prop} (h : RowV A w n v Q) : ∃ ao cap, v = .slice ao n cap ∧ n ≤ cap := by
  rcases h with ⟨rfl, rfl, _⟩ | ⟨g, cap, cur, h1, _, _, h4, _⟩
  · exact ⟨_, _, rfl, by omega⟩
  · exact ⟨_, _, h1, h4⟩
theorem ElAt.form {A : Nat → Prop} {w : World} {e : Sc.El} {cs : List Value} (h : ElAt A w e cs) : ∃ p ao n cap, cs = hd e.first p (.slice ao n cap) e.fl := by
  cases e with
  | leaf t => simp only [ElAt] at h; obtain ⟨p, h⟩ := h; exact ⟨p, _, _, _, h⟩
  | pre t e => simp only [ElAt] at h; obtain ⟨p, v, h, h'⟩ := h; obtain ⟨ao, cap, rfl, _⟩ := h'.shape; exact ⟨p, _, _, _, h⟩
  | lst o es c => simp only [ElAt] at h; obtain ⟨p, v, h, h'⟩ := h; obtain ⟨ao, cap, rfl, _⟩ := h'.shape; exact ⟨p, _, _, _, h⟩
theorem ElAt.len {A : Nat → Prop} {w : World} {e : Sc.El} {cs : List Value} (h : ElAt A w e cs) : cs.length = 6 := by
  obtain ⟨p, ao, n, cap, rfl⟩ := h.form; rfl
theorem ElsAt.len {A : Nat → Prop} {w : World} : ∀ {es : List Sc.El} {cs : List Value}, ElsAt A w es cs → cs.length = es.length * 6
  | [], cs, h => by simp only [ElsAt] at h; subst h; rfl
  | e :: es, cs, h => by
    simp only [ElsAt] at h
    obtain ⟨c1, c2, rfl, h1, h2⟩ := h
    rw [List.length_append, h1.len, ElsAt.len h2, List.length_cons]; omega
theorem ElsAt.at {A : Nat → Prop} {w : World} : ∀ {es : List Sc.El} {cs : List Value}, ElsAt A w es cs → ∀ i (hi : i < es.length), ElAt A w es[i] ((cs.drop (i * 6)).take 6)
  | [], _, _, i, hi => by simp at hi
  | e :: es, cs, h, i, hi => by
    simp only [ElsAt] at h
    obtain ⟨c1, c2, rfl, h1, h2⟩ := h
    cases i with
    | zero =>
      have : ((c1 ++ c2).drop (0 * 6)).take 6 = c1 := by rw [Nat.zero_mul, List.drop_zero, ← h1.len, List.take_left]
      rw [this]; exact h1
    | succ i =>
      have : (c1 ++ c2).drop ((i + 1) * 6) = c2.drop (i * 6) := by
        rw [show (i + 1) * 6 = c1.length + i * 6 by rw [h1.len]; omega, List.drop_append, List.drop_eq_nil_of_le (Nat.le_add_right ..), List.nil_append, Nat.add_sub_cancel_left]
      rw [this]
      exact ElsAt.at h2 i (by simpa using hi)
theorem ElsAt.snoc {A : Nat → Prop} {w : World} : ∀ {es : List Sc.El} {cs : List Value} {e : Sc.El} {c : List Value}, ElsAt A w es cs → ElAt A w e c → ElsAt A w (es ++ [e]) (cs ++ c)
  | [], cs, e, c, h, k => by
    simp only [ElsAt] at h; subst h
    simp only [List.nil_append, ElsAt]
    exact ⟨c, [], by simp, k, rfl⟩
  | e' :: es, cs, e, c, h, k => by
    simp only [ElsAt] at h
    obtain ⟨c1, c2, rfl, h1, h2⟩ := h
    simp only [List.cons_append, ElsAt]
    exact ⟨c1, c2 ++ c, by simp, h1, ElsAt.snoc h2 k⟩

/-- The reader rb stands ahead of the i-th token. -/
def RdAt (rb g : Nat) (i n cap : Nat) (w : World) : Prop := ∃ ao c, w.heap[rb]? = some (.cells #[.slice ao (n - i) c] 90 (0, 0)) ∧ (i < n → ao = some ⟨g, i * 4, none⟩ ∧ c = cap - i)
theorem Fr.alloc {N x : Nat} {a w : World} (h : Fr N x a w) (hN : N ≤ w.heap.size) (o : Obj) : Fr N x a (w.alloc o) :=
  ⟨h.os, h.tape, h.output, by simp; have := h.size; omega, fun k hk hx => (Lib.alloc_old w o k (by omega)).trans (h.block k hk hx)⟩
theorem heap_set0 {w : World} {rb : Nat} {v u : Value} {T : TypeId} (h : w.heap[rb]? = some (.cells #[v] T (0, 0))) : (w.setCell ⟨rb, 0, none⟩ u).heap[rb]? = some (.cells #[u] T (0, 0)) := by
  simp [World.setCell, Array.getElem?_modify, h]
theorem RdAt.fr {rb g i n cap : Nat} {w w' : World} (h : RdAt rb g i n cap w) (hb : Below w.heap.size w w') : RdAt rb g i n cap w' := by
  obtain ⟨ao, c, h1, h2⟩ := h
  exact ⟨ao, c, (hb.block rb (Array.getElem?_eq_some_iff.1 h1).1).trans h1, h2⟩

set_option maxHeartbeats 1000000 in
theorem next_any (rb g i : Nat) (ts : List Sc.Tok) (cap B0 : Nat) (w : World) (h : Owns w B0 (.slice (some ⟨g, 0, none⟩) ts.length cap) ts) (hr : RdAt rb g i ts.length cap w) (hi : i < ts.length) :
    Calls Tryd.prog 79 #[.pointer (some ⟨rb, 0, none⟩)] w fun e w' => e = .returned (.agg #[.int .i64 ts[i].kind, .string ⟨ts[i].text.toArray⟩, .int .i64 ts[i].place, .bool ts[i].behind]) ∧ RdAt rb g (i + 1) ts.length cap w' ∧ Fr w.heap.size rb w w' := by
  obtain ⟨g', hg1, -, -, hg4, hcap, c0, c1, c2, c3⟩ := h.at i hi
  cases hg1
  obtain ⟨ao, cc, hr, hra⟩ := hr
  obtain ⟨rfl, rfl⟩ := hra hi
  have r0 : w.cell? ⟨rb, 0, none⟩ = some (.slice (some ⟨g, i * 4, none⟩) (ts.length - i) (cap - i)) := by rw [Lib.cell_of_heap hr]; rfl
  have f0 : w.frozen? ⟨rb, 0, none⟩ = false := Lib.frozen_of_heap hr 0
  generalize ts[i].kind = kk at *
  generalize ts[i].place = pp at *
  generalize ts[i].behind = bb at *
  generalize (⟨ts[i].text.toArray⟩ : ByteArray) = tt at *
  have hm : 0 < ts.length - i := by omega
  have hrl : rb < w.heap.size := (Array.getElem?_eq_some_iff.1 hr).1
  go_enter Tryd.func79, Tryd.ntmps79
  go_wp2
  all_goals refine bodyPost_ret (v := .agg #[.int .i64 kk, .string tt, .int .i64 pp, .bool bb]) (by simp [results, Tryd.results79, go_sem]) rfl ?_
  all_goals refine ⟨rfl, ⟨_, _, ((Lib.alloc_old _ _ _ (by simp [World.setCell]; omega)).trans ((Lib.alloc_old _ _ _ (by simpa [World.setCell] using hrl)).trans (heap_set0 hr))), fun hh => ?_⟩, (((Fr.refl _ _ _).set 0 none _).alloc (by simp [World.setCell]) _).alloc (by simp [World.setCell]) _⟩
  · exfalso; omega
  · exact ⟨by rw [Nat.add_mul], by omega⟩
end Go.Proofs.YtoieklacpkahbaaDoor
namespace Go.Proofs.YtoieklacpkahbaaDoor
open Go.RowKit
namespace Sc
def flGo : List El → Int → Int → Int
  | [], a, add => a + add
  | e :: es, a, add => if e.fl = -1 then -1 else flGo es (a + e.fl) add
theorem El.fl_neg (e : El) : e.fl = -1 ↔ e.com = true := by
  unfold El.fl
  cases e.com with
  | true => simp
  | false => simp
theorem El.fl_pos {e : El} (h : e.com = false) : e.fl = e.flen := by unfold El.fl; rw [h]; rfl
theorem El.fl_ge (e : El) : -1 ≤ e.fl := by
  unfold El.fl; split <;> omega
def sumF : List El → Nat
  | [] => 0
  | e :: es => e.flen + sumF es
theorem flGo_eq : ∀ (es : List El) (a add : Int), flGo es a add = if es.any (·.com) then -1 else a + sumF es + add
  | [], a, add => by simp [flGo, sumF]
  | e :: es, a, add => by
    rw [flGo, flGo_eq es]
    cases h : e.com with
    | true => rw [if_pos ((El.fl_neg e).2 h)]; simp [h]
    | false =>
      rw [if_neg (by rw [El.fl_neg, h]; simp), El.fl_pos h]
      simp only [List.any_cons, h, Bool.false_or, sumF]
      split
      · rfl
      · push_cast; omega
theorem com_pre (t : Tok) (e : El) (h : t.kind ≠ 5) : (El.pre t e).com = e.com := by
  unfold El.com; rw [El.toks, List.any_cons]; simp [h]
theorem comL : ∀ es : List El, (toksL es).any (fun t => t.kind == 5) = es.any (·.com)
  | [] => rfl
  | e :: es => by rw [toksL, List.any_append, comL es, List.any_cons]; rfl
theorem com_lst (o c : Tok) (es : List El) (ho : o.kind ≠ 5) (hc : c.kind ≠ 5) : (El.lst o es c).com = es.any (·.com) := by
  unfold El.com; rw [El.toks, List.any_cons, List.any_append, comL]
  have h1 : (o.kind == 5) = false := beq_eq_false_iff_ne.2 ho
  have h2 : (c.kind == 5) = false := beq_eq_false_iff_ne.2 hc
  rw [h1, Bool.false_or, List.any_cons, h2, List.any_nil, Bool.or_false, Bool.or_false]; rfl
theorem flat_len (e : El) (g : List UInt8) : (render (e.flat g) []).length = g.length + e.flen := by
  obtain ⟨r, h1, h2⟩ := flat_gap e g
  unfold El.flen
  rw [h1, h2, render, render]; simp
theorem flatL_len : ∀ (es : List El) (g : List UInt8), (render (flatL es g) []).length = match es with | [] => 0 | _ :: r => g.length + sumF es + r.length
  | [], _ => rfl
  | e :: es, g => by
    rw [flatL, render_app, render_tl, List.length_append, flat_len, flatL_len es]
    cases es with
    | nil => simp [sumF]
    | cons e' es => simp [sumF]; omega
theorem fl_leaf (t : Tok) (add : Int) (h2 : t.kind ≠ 2) : (El.leaf t).fl = if t.kind = 5 then -1 else flGo [] t.text.length (if t.kind = 2 then add else 0) := by
  unfold El.fl El.com El.flen
  rw [El.toks, El.flat, if_neg h2]
  by_cases h : t.kind = 5 <;> simp [h, flGo, render]
theorem fl_pre (t : Tok) (e : El) (add : Int) (h : t.kind = 4) : (El.pre t e).fl = if t.kind = 5 then -1 else flGo [e] t.text.length (if t.kind = 2 then add else 0) := by
  rw [if_neg (by omega), if_neg (by omega), flGo_eq, El.fl, com_pre t e (by omega)]
  have : (El.pre t e).flen = t.text.length + e.flen := by
    unfold El.flen; rw [El.flat, render]; simp
  rw [this]
  cases h : e.com <;> simp [sumF, h]
theorem fl_lst (o c : Tok) (es : List El) (ho : o.kind = 2) (hc : c.kind = 3) (hct : c.text.length = 1) : (El.lst o es c).fl = if o.kind = 5 then -1 else flGo es o.text.length (if o.kind = 2 then max 1 es.length else 0) := by
  rw [if_neg (by omega), if_pos ho, flGo_eq, El.fl, com_lst o c es (by omega) (by omega)]
  have : (El.lst o es c).flen = o.text.length + (sumF es + max 1 es.length) := by
    unfold El.flen; rw [El.flat, render, render_app, render_tl]
    simp only [List.length_append, render, flatL_len, hct, List.length_nil]
    cases es with
    | nil => simp [sumF]
    | cons e r => simp; omega
  rw [this]
  split
  · rfl
  · push_cast; omega
end Sc

theorem RowV.cells {A : Nat → Prop} {w : World} {v : Value} {ins : List Sc.El} (h : RowV A w ins.length v (ElsAt A w ins)) (k : Nat) (hk : k < ins.length) :
    ∃ g cap p ao n' cap', v = .slice (some ⟨g, 0, none⟩) ins.length cap ∧ A g ∧ g < w.heap.size ∧ ins.length ≤ cap ∧ ElAt A w ins[k] (hd ins[k].first p (.slice ao n' cap') ins[k].fl) ∧
      w.cell? ⟨g, k * 6, none⟩ = some (.int .i64 ins[k].first.kind) ∧ w.cell? ⟨g, k * 6 + 1, none⟩ = some (.string ⟨ins[k].first.text.toArray⟩) ∧ w.cell? ⟨g, k * 6 + 2, none⟩ = some (.int .i64 p) ∧
      w.cell? ⟨g, k * 6 + 3, none⟩ = some (.bool ins[k].first.behind) ∧ w.cell? ⟨g, k * 6 + 4, none⟩ = some (.slice ao n' cap') ∧ w.cell? ⟨g, k * 6 + 5, none⟩ = some (.int .i64 ins[k].fl) := by
  rcases h with ⟨_, h2, _⟩ | ⟨g, cap, cur, h1, h2, h3, h4, h5, h6, h7⟩
  · omega
  · have he := h7.at k hk
    obtain ⟨p, ao, n', cap', hf⟩ := he.form
    have hc : ∀ j, j < 6 → w.cell? ⟨g, k * 6 + j, none⟩ = (hd ins[k].first p (.slice ao n' cap') ins[k].fl)[j]? := by
      intro j hj
      rw [Lib.cell_of_heap h3, ← hf, List.getElem?_take_of_lt hj, List.getElem?_drop, List.getElem?_take_of_lt (by omega), Array.getElem?_toList]
    rw [hf] at he
    exact ⟨g, cap, p, ao, n', cap', h1, h2, (Array.getElem?_eq_some_iff.1 h3).1, h4, he, (hc 0 (by omega)).trans rfl, (hc 1 (by omega)).trans rfl, (hc 2 (by omega)).trans rfl, (hc 3 (by omega)).trans rfl, (hc 4 (by omega)).trans rfl, (hc 5 (by omega)).trans rfl⟩
theorem RowV.one {A : Nat → Prop} {w : World} {v : Value} {e : Sc.El} (h : RowV A w 1 v (ElAt A w e)) : RowV A w [e].length v (ElsAt A w [e]) := by
  refine h.mono (fun k hk _ => ⟨hk, rfl⟩) fun cs hc => ?_
  simp only [ElsAt]
  exact ⟨cs, [], by simp, hc, rfl⟩

set_option maxHeartbeats 1000000 in
theorem is_any (b c d v f : Value) (kk k : Int) (w : World) :
    Calls Tryd.prog 60 #[.agg #[.int .i64 kk, b, c, d, v, f], .int .i64 k] w fun e w' => e = .returned (.bool (kk == k)) ∧ w' = w.alloc (.cells #[.int .i64 kk, b, c, d, v, f] 85) := by
  go_enter Tryd.func60, Tryd.ntmps60
  go_wp2
  go_ret
  exact ⟨rfl, rfl⟩

set_option maxHeartbeats 2000000 in
theorem flatLength_any (t : Sc.Tok) (p f : Int) (v : Value) (ins : List Sc.El) (A : Nat → Prop) (w : World) (h : RowV A w ins.length v (ElsAt A w ins)) (hn : ins.length ≤ 4096) (hf : ∀ e ∈ ins, e.fl ≤ 100000) (ht : t.text.length ≤ 4096) :
    Calls Tryd.prog 80 #[.agg #[.int .i64 t.kind, .string ⟨t.text.toArray⟩, .int .i64 p, .bool t.behind, v, .int .i64 f]] w fun e w' => e = .returned (.int .i64 (if t.kind = 5 then -1 else Sc.flGo ins t.text.length (if t.kind = 2 then max 1 ins.length else 0))) ∧ Below w.heap.size w w' := by
  obtain ⟨ao, cap, rfl, hcap⟩ := h.shape
  have hsz := hide (wbsize t.text)
  rw [← hsz.out] at ht ⊢
  generalize (⟨t.text.toArray⟩ : ByteArray) = tt at *
  generalize t.behind = bb at *
  generalize t.kind = kk at *
  have HF := hide hf; clear hf
  cases k5 : (kk == 5) with
  | true =>
    have hX : kk = 5 := by simpa using k5
    rw [if_pos hX]
    clear hX
    go_enter Tryd.func80, Tryd.ntmps80
    go_wp2_with (go_at_call 60; refine (is_any _ _ _ _ _ _ _ _).mono ?_; rintro e w1 ⟨he, rfl⟩; rw [k5] at he; subst he)
    go_ret
    exact ⟨rfl, ((Below.refl _ _).alloc (Nat.le_refl _) _).alloc (by simp) _⟩
  | false =>
    have hX : ¬ kk = 5 := by simpa using k5
    rw [if_neg hX]
    clear hX
    generalize hR : Sc.flGo ins tt.size (if kk = 2 then max 1 ins.length else 0) = R
    have HR := hide hR
    clear hR
    go_enter Tryd.func80, Tryd.ntmps80
    go_wp2_with (go_at_call 60; refine (is_any _ _ _ _ _ _ _ _).mono ?_; rintro e w1 ⟨he, rfl⟩; rw [k5] at he; subst he)
    go_loopw [3, 15] (fun a i wr => ∃ (k : Nat) (acc : Int), k ≤ ins.length ∧ i = .int .i64 k ∧ a = .int .i64 acc ∧ 0 ≤ acc ∧ acc ≤ 4096 + 100000 * k ∧ Below (w.heap.size + 1) (w.alloc (.cells #[.int .i64 kk, .string tt, .int .i64 p, .bool bb, .slice ao ins.length cap, .int .i64 f] 85)) wr ∧ Hid (R = Sc.flGo (ins.drop k) acc (if kk = 2 then max 1 ins.length else 0))) (fun _ i _ => ins.length - (intOf i).toNat)
    case atStart => exact ⟨0, tt.size, by omega, rfl, rfl, by omega, by omega, (Below.refl _ _).alloc (by simp) _, HR.out.symm⟩
    case round =>
      obtain ⟨k, acc, h1, rfl, rfl, h2, h3, hbel, HK⟩ := hrel
      by_cases hlt : k < ins.length
      · obtain ⟨g, cap', pp, vo, vn, vc, e1, -, hg, -, -, c0, c1, c2, c3, c4, c5⟩ := h.cells k hlt
        injection e1 with e1 e2 e3
        subst e1 e3
        have cc := fun (a : Addr) (ha : a.block < w.heap.size) => (hbel.cell (p := a) (by omega)).trans (((Below.refl w.heap.size w).alloc (Nat.le_refl _) _).cell ha)
        have d0 := (cc ⟨g, k * 6, none⟩ hg).trans c0
        have d1 := (cc ⟨g, k * 6 + 1, none⟩ hg).trans c1
        have d2 := (cc ⟨g, k * 6 + 2, none⟩ hg).trans c2
        have d3 := (cc ⟨g, k * 6 + 3, none⟩ hg).trans c3
        have d4 := (cc ⟨g, k * 6 + 4, none⟩ hg).trans c4
        have d5 := (cc ⟨g, k * 6 + 5, none⟩ hg).trans c5
        clear cc c0 c1 c2 c3 c4 c5
        have hfk := HF.out ins[k] (List.getElem_mem hlt)
        have hfg := Sc.El.fl_ge ins[k]
        have HD := hide (List.drop_eq_getElem_cons hlt)
        obtain ⟨fe, hfe⟩ : ∃ fe, fe = ins[k].fl := ⟨_, rfl⟩
        rw [← hfe] at d5 hfk hfg
        have HE := hide hfe
        generalize ins[k].first.kind = k1 at d0
        generalize (⟨ins[k].first.text.toArray⟩ : ByteArray) = b1 at d1
        generalize ins[k].first.behind = q1 at d3
        clear hfe
        cases hm1 : (fe == -1) with
        | true =>
          have HX : Hid (R = -1) := by
            rw [HK.out, HD.out, Sc.flGo, ← HE.out, if_pos (by simpa using hm1)]; exact hide rfl
          have hfe1 : fe = -1 := by simpa using hm1
          subst hfe1
          clear hm1
          go_wp2
          go_ret
          exact ⟨ret_int HX.out.symm, ((((Below.refl _ _).alloc (Nat.le_refl _) _).trans (hbel.mono (by omega))).alloc (by have := hbel.size; simp at this; omega) _)⟩
        | false =>
          have HX : Hid (R = Sc.flGo (ins.drop (k + 1)) (acc + fe) (if kk = 2 then max 1 ins.length else 0)) := by
            rw [HK.out, HD.out, Sc.flGo, ← HE.out, if_neg (by simpa using hm1)]; exact hide rfl
          have hfe0 : 0 ≤ fe := by have : fe ≠ -1 := by simpa using hm1
                                   omega
          go_wp2
          go_roundw
          case rel => exact ⟨k + 1, acc + fe, by omega, by go_num, by go_num, by omega, by omega, hbel.alloc (by have := hbel.size; simp at this; omega) _, HX⟩
          case measure => simp [intOf]; omega
      · have hk : k = ins.length := by omega
        subst hk
        rw [List.drop_length, Sc.flGo] at HK
        have hsz2 := hbel.size
        have hbe : Below w.heap.size w wr := ((Below.refl _ _).alloc (Nat.le_refl _) _).trans (hbel.mono (by omega))
        have q := fun j => hbel.cell (p := ⟨w.heap.size, j, none⟩) (by show w.heap.size < _; omega)
        have q0 := (q 0).trans (show _ = some (Value.int .i64 kk) by simp)
        have q1 := (q 1).trans (show _ = some (Value.string tt) by simp)
        have q2 := (q 2).trans (show _ = some (Value.int .i64 p) by simp)
        have q3 := (q 3).trans (show _ = some (Value.bool bb) by simp)
        have q4 := (q 4).trans (show _ = some (Value.slice ao ins.length cap) by simp)
        have q5 := (q 5).trans (show _ = some (Value.int .i64 f) by simp)
        have hsz3 : w.heap.size < wr.heap.size := by simp at hsz2; omega
        clear q hbel hsz2
        cases k2 : (kk == 2) with
        | true =>
          have HX : Hid (R = acc + max 1 (ins.length : Int)) := by rw [HK.out, if_pos (by simpa using k2)]; exact hide rfl
          clear HK HR
          go_wp2_with (go_at_call 60; refine (is_any _ _ _ _ _ _ _ _).mono ?_; rintro e w1 ⟨he, rfl⟩; rw [k2] at he; subst he)
          go_ret
          exact ⟨ret_int HX.out.symm, hbe.alloc (by omega) _⟩
        | false =>
          have HX : Hid (R = acc) := by rw [HK.out, if_neg (by simpa using k2)]; exact hide (Int.add_zero _)
          clear HK HR
          go_wp2_with (go_at_call 60; refine (is_any _ _ _ _ _ _ _ _).mono ?_; rintro e w1 ⟨he, rfl⟩; rw [k2] at he; subst he)
          go_ret
          exact ⟨ret_int HX.out.symm, hbe.alloc (by omega) _⟩
end Go.Proofs.YtoieklacpkahbaaDoor
