/- The caller's book: lists that are the caller's, in memory. -/
/- Walks: ownTokens. -/
import Derived.Test.YtoieklacpkahbaaDoorWalkV
import Derived.Test.YtoieklacpkahbaaDoorAppend
namespace Go.Proofs.YtoieklacpkahbaaDoor
open Go.RowKit

def mkTok (k : Nat) : Sc.Tok := ⟨-1 - (k : Int), [], 0, false⟩
def marks (n k : Nat) : List Sc.Tok := List.replicate n (mkTok k)
def sliceLen : Value → Nat | .slice _ n _ => n | _ => 0
/-- A list that is written full of a mark. -/
def Fill (w : World) (lv : Value) (k : Nat) : Prop := ∃ ao n cap, lv = .slice ao n cap ∧ n ≤ 4200 ∧ ((ao = none ∧ n = 0) ∨ ∃ g, ao = some ⟨g, 0, none⟩ ∧ (∃ cur, w.heap[g]? = some (Obj.cells cur 37 (0, 0))) ∧
  ∀ j, j < n * 4 → w.cell? ⟨g, j, none⟩ = (Sc.tcells (marks n k))[j]?)
def ecells : List (Value × Nat) → List Value
  | [] => []
  | e :: es => [e.1, .int .i64 (e.2 : Int)] ++ ecells es
theorem ecells_len (es : List (Value × Nat)) : (ecells es).length = es.length * 2 := by
  induction es with
  | nil => rfl
  | cons e es ih => simp [ecells, ih]; omega
theorem ecells_append (a b : List (Value × Nat)) : ecells (a ++ b) = ecells a ++ ecells b := by
  induction a with
  | nil => rfl
  | cons t a ih => simp [ecells, ih]
theorem ecells_get (es : List (Value × Nat)) (i : Nat) (h : i < es.length) : (ecells es)[i * 2]? = some es[i].1 ∧ (ecells es)[i * 2 + 1]? = some (.int .i64 (es[i].2 : Int)) := by
  induction es generalizing i with
  | nil => simp at h
  | cons e es ih =>
    cases i with
    | zero => exact ⟨rfl, rfl⟩
    | succ i =>
      have := ih i (by simpa using h)
      simp only [ecells, List.getElem_cons_succ]
      rw [List.getElem?_append_right (by simp; omega), List.getElem?_append_right (by simp; omega)]
      simp only [List.length_cons, List.length_nil]
      rw [show (i + 1) * 2 - (0 + 1 + 1) = i * 2 by omega, show (i + 1) * 2 + 1 - (0 + 1 + 1) = i * 2 + 1 by omega]
      exact this
structure Bk (w : World) (B bk : Nat) (tv : Value) (es : List (Value × Nat)) : Prop where
  base : B ≤ bk
  block : w.heap[bk]? = some (.cells #[tv, .slice none 0 0, .slice none 0 0] 32 (0, 0))
  own : w.ownsRow B 53 2 tv es.length (ecells es)
  fill : ∀ e ∈ es, Fill w e.1 e.2
  few : ∀ e ∈ es, e.2 ≤ 100
/-- Nothing has turned but the blocks of X. -/
structure Kp (w w' : World) (X : Nat → Prop) : Prop where
  os : w'.os = w.os
  tape : w'.tape = w.tape
  output : w'.output = w.output
  size : w.heap.size ≤ w'.heap.size
  keep : ∀ g, g < w.heap.size → ¬ X g → w'.heap[g]? = w.heap[g]?
theorem Kp.refl (w : World) (X : Nat → Prop) : Kp w w X := ⟨rfl, rfl, rfl, Nat.le_refl _, fun _ _ _ => rfl⟩
theorem Kp.trans {a b c : World} {X : Nat → Prop} (h : Kp a b X) (k : Kp b c X) : Kp a c X :=
  ⟨k.os.trans h.os, k.tape.trans h.tape, k.output.trans h.output, Nat.le_trans h.size k.size, fun g hg hx => (k.keep g (Nat.lt_of_lt_of_le hg h.size) hx).trans (h.keep g hg hx)⟩
theorem Kp.trans2 {a b c : World} {X Y : Nat → Prop} (h : Kp a b X) (k : Kp b c Y) (hxy : ∀ g, g < a.heap.size → Y g → X g) : Kp a c X :=
  ⟨k.os.trans h.os, k.tape.trans h.tape, k.output.trans h.output, Nat.le_trans h.size k.size, fun g hg hx => (k.keep g (Nat.lt_of_lt_of_le hg h.size) (fun y => hx (hxy g hg y))).trans (h.keep g hg hx)⟩
theorem Kp.mono {a b : World} {X Y : Nat → Prop} (h : Kp a b X) (hxy : ∀ g, X g → Y g) : Kp a b Y := ⟨h.os, h.tape, h.output, h.size, fun g hg hy => h.keep g hg fun x => hy (hxy g x)⟩
theorem Kp.of_below {a b : World} {X : Nat → Prop} (h : Below a.heap.size a b) : Kp a b X := ⟨h.os, h.tape, h.output, h.size, fun g hg _ => h.block g hg⟩
theorem Kp.of_grown {a b : World} {row : Option Nat} (h : a.grownBy b row) : Kp a b (fun g => some g = row) := ⟨h.os, h.tape, h.output, h.size, fun g hg hx => h.block g hg hx⟩
theorem Kp.alloc (w : World) (o : Obj) (X : Nat → Prop) : Kp w (w.alloc o) X := Kp.of_below ((Below.refl _ _).alloc (Nat.le_refl _) _)
theorem Kp.drew {w w' : World} {X : Nat → Prop} (h : Kp w w' X) : Kp w w'.drew X := ⟨h.os, h.tape, h.output, h.size, h.keep⟩
theorem Kp.drewN {w w' : World} {X : Nat → Prop} (h : Kp w w' X) (n : Nat) : Kp w (w'.drewN n) X := ⟨h.os, h.tape, h.output, h.size, h.keep⟩
theorem Kp.setCell (w : World) (a : Addr) (u : Value) : Kp w (w.setCell a u) (fun g => g = a.block) :=
  ⟨rfl, rfl, rfl, by simp, fun g _ hx => Below.heap_setCell w a u g hx⟩
theorem Kp.below {a b : World} {B : Nat} {X : Nat → Prop} (h : Kp a b X) (hB : B ≤ a.heap.size) (hx : ∀ g, X g → B ≤ g) : Below B a b :=
  ⟨h.os, h.tape, h.output, h.size, fun g hg => h.keep g (by omega) fun x => by have := hx g x; omega⟩
theorem Fill.keep {w w' : World} {lv : Value} {k : Nat} (h : Fill w lv k) (hk : ∀ g, lv.ownBlock = some g → w'.heap[g]? = w.heap[g]?) : Fill w' lv k := by
  obtain ⟨ao, n, cap, rfl, h1, h2⟩ := h
  refine ⟨ao, n, cap, rfl, h1, h2.imp id ?_⟩
  rintro ⟨g, rfl, ⟨cur, h3⟩, h4⟩
  have e := hk g rfl
  exact ⟨g, rfl, ⟨cur, by rw [e]; exact h3⟩, fun j hj => by rw [← h4 j hj]; exact World.cell?_of_block e⟩
theorem Fill.part {w w' : World} {lv : Value} {k : Nat} (h : Fill w lv k) (hc : ∀ g, lv.ownBlock = some g → (∃ cur, w'.heap[g]? = some (Obj.cells cur 37 (0, 0))) ∧ ∀ j, j < sliceLen lv * 4 → w'.cell? ⟨g, j, none⟩ = w.cell? ⟨g, j, none⟩) : Fill w' lv k := by
  obtain ⟨ao, n, cap, rfl, h1, h2⟩ := h
  refine ⟨ao, n, cap, rfl, h1, h2.imp id ?_⟩
  rintro ⟨g, rfl, _, h4⟩
  have e := hc g rfl
  exact ⟨g, rfl, e.1, fun j hj => (e.2 j hj).trans (h4 j hj)⟩
theorem Owns.fill {w : World} {B : Nat} {v : Value} {n k : Nat} (h : Owns w B v (marks n k)) (hn : n ≤ 4200) : Fill w v k := by
  have hl : (marks n k).length = n := by simp [marks]
  rcases h.2 with ⟨rfl, hz⟩ | ⟨g, cap, cur, rfl, hB, hgg, h1, _⟩
  · exact ⟨none, 0, 0, rfl, by omega, .inl ⟨rfl, rfl⟩⟩
  · refine ⟨some ⟨g, 0, none⟩, _, cap, rfl, by omega, .inr ⟨g, rfl, ⟨cur, hgg⟩, fun j hj => ?_⟩⟩
    rw [World.ownsRow.cellAt h j hj, hl]
theorem ownBlock_heap {w : World} {B e size n : Nat} {v : Value} {xs : List Value} (h : w.ownsRow B e size v n xs) {g : Nat} (hg : v.ownBlock = some g) : ∃ cur, w.heap[g]? = some (Obj.cells cur e (0, 0)) := by
  rcases h.2 with ⟨rfl, _⟩ | ⟨g', cap, cur, rfl, _, hgg, _⟩
  · simp [Value.ownBlock] at hg
  · obtain rfl : g' = g := by simpa [Value.ownBlock] using hg
    exact ⟨cur, hgg⟩
theorem owns_keep {w w' : World} {B e size n : Nat} {v : Value} {xs : List Value} (h : w.ownsRow B e size v n xs) (hk : ∀ g, v.ownBlock = some g → w'.heap[g]? = w.heap[g]?) : w'.ownsRow B e size v n xs := by
  refine ⟨h.1, ?_⟩
  rcases h.2 with hn | ⟨g, cap, cur, rfl, hB, hgg, rest⟩
  · exact .inl hn
  · exact .inr ⟨g, cap, cur, rfl, hB, by rw [hk g rfl]; exact hgg, rest⟩
theorem Bk.keep {w w' : World} {B bk : Nat} {tv : Value} {es : List (Value × Nat)} (h : Bk w B bk tv es) (hb : w'.heap[bk]? = w.heap[bk]?) (ht : ∀ g, tv.ownBlock = some g → w'.heap[g]? = w.heap[g]?)
    (hf : ∀ e ∈ es, ∀ g, e.1.ownBlock = some g → w'.heap[g]? = w.heap[g]?) : Bk w' B bk tv es :=
  ⟨h.base, by rw [hb]; exact h.block, owns_keep h.own ht, fun e he => (h.fill e he).keep (hf e he), h.few⟩
theorem Fill.heap {w : World} {lv : Value} {k g : Nat} (h : Fill w lv k) (hg : lv.ownBlock = some g) : ∃ cur, w.heap[g]? = some (Obj.cells cur 37 (0, 0)) := by
  obtain ⟨ao, n, cap, rfl, _, h2⟩ := h
  rcases h2 with ⟨rfl, _⟩ | ⟨g', rfl, h3, _⟩
  · simp [Value.ownBlock] at hg
  · obtain rfl : g' = g := by simpa [Value.ownBlock] using hg
    exact h3
theorem lt_of_heap {w : World} {g : Nat} {o : Obj} (h : w.heap[g]? = some o) : g < w.heap.size := (Array.getElem?_eq_some_iff.1 h).1
theorem ne_type {w : World} {g g' e e' : Nat} {c c' : Array Value} {f f' : Nat × Nat} (h : w.heap[g]? = some (.cells c e f)) (h' : w.heap[g']? = some (.cells c' e' f')) (hne : e ≠ e') : g ≠ g' := by
  intro x; subst x; rw [h] at h'; injection h' with h'; injection h' with _ h2 _; exact hne h2

def mkCells (K : Nat) : Array Value := #[.int .i64 (-1 - (K : Int)), .string ⟨#[]⟩, .int .i64 0, .bool false]
/-- Where ownTokens stands. -/
structure St (w0 w : World) (A B bk mb K : Nat) (L0 tv0 : Value) (es0 : List (Value × Nat)) (tv : Value) (es : List (Value × Nat)) (L : Value) (n : Nat) : Prop where
  book : Bk w B bk tv es
  list : Owns w A L (marks n K)
  mbk : w.heap[mb]? = some (.cells (mkCells K) 37 (0, 0))
  mbne : L.ownBlock ≠ some mb
  kp : Kp w0 w (fun g => some g = L0.ownBlock ∨ g = bk ∨ some g = tv0.ownBlock)
  ent : ∀ e ∈ es, e.1.ownBlock ≠ L.ownBlock ∨ sliceLen e.1 ≤ n
  new : ∀ e ∈ es, e ∈ es0 ∨ e.1.ownBlock = L0.ownBlock ∨ ∃ g, e.1.ownBlock = some g ∧ w0.heap.size ≤ g
  lnew : L.ownBlock = L0.ownBlock ∨ ∃ g, L.ownBlock = some g ∧ w0.heap.size ≤ g
  tnew : tv.ownBlock = tv0.ownBlock ∨ ∃ g, tv.ownBlock = some g ∧ w0.heap.size ≤ g
  small : n ≤ 4200
  kK : K ≤ 100

theorem marks_len (n k : Nat) : (marks n k).length = n := by simp [marks]
theorem marks_succ (n k : Nat) : marks (n + 1) k = marks n k ++ [mkTok k] := by simp [marks, List.replicate_succ']

theorem St.stepT {w0 w w1 : World} {A B bk mb K : Nat} {L0 tv0 : Value} {es0 : List (Value × Nat)} {tv tv' : Value} {es : List (Value × Nat)} {L : Value} {n : Nat} {o : Obj}
    (S : St w0 w A B bk mb K L0 tv0 es0 tv es L n) (hg : (w.alloc o).grownBy w1 tv.ownBlock) (ho : w1.ownsRow B 53 2 tv' (es.length + 1) (ecells es ++ [L, .int .i64 (K : Int)]))
    (hat : tv'.ownBlock = tv.ownBlock ∨ ∃ g, tv'.ownBlock = some g ∧ w.heap.size + 1 ≤ g) :
    St w0 (w1.setCell ⟨bk, 0, none⟩ tv') A B bk mb K L0 tv0 es0 tv' (es ++ [(L, K)]) L n := by
  have hbk := S.book.block
  have hblt := lt_of_heap hbk
  have hsz : (w.alloc o).heap.size = w.heap.size + 1 := by simp
  have kOld : ∀ g, g < w.heap.size → some g ≠ tv.ownBlock → w1.heap[g]? = w.heap[g]? := fun g hg1 hg2 => (hg.block g (by omega) hg2).trans (Below.heap_alloc w o g hg1)
  have hTtype : ∀ g, tv.ownBlock = some g → ∃ cur, w.heap[g]? = some (Obj.cells cur 53 (0, 0)) := fun g h => ownBlock_heap S.book.own h
  have hbkne : some bk ≠ tv.ownBlock := by
    intro e
    obtain ⟨cur, h2⟩ := hTtype bk e.symm
    exact ne_type hbk h2 (by decide) rfl
  have hb1 : w1.heap[bk]? = some (.cells #[tv, .slice none 0 0, .slice none 0 0] 32 (0, 0)) := (kOld bk hblt hbkne).trans hbk
  have k37 : ∀ g : Nat, (∃ cur, w.heap[g]? = some (Obj.cells cur 37 (0, 0))) → (w1.setCell ⟨bk, 0, none⟩ tv').heap[g]? = w.heap[g]? := by
    rintro g ⟨cur, hcur⟩
    have h1 : some g ≠ tv.ownBlock := by
      intro e
      obtain ⟨cur', h2⟩ := hTtype g e.symm
      exact ne_type hcur h2 (by decide) rfl
    have h2 : g ≠ bk := ne_type hcur hbk (by decide)
    rw [Below.heap_setCell w1 ⟨bk, 0, none⟩ tv' g h2]
    exact kOld g (lt_of_heap hcur) h1
  have hset : (w1.setCell ⟨bk, 0, none⟩ tv').heap[bk]? = some (.cells #[tv', .slice none 0 0, .slice none 0 0] 32 (0, 0)) := by
    have h3 : bk < w1.heap.size := lt_of_heap hb1
    have h4 : w1.heap[bk] = .cells #[tv, .slice none 0 0, .slice none 0 0] 32 (0, 0) := by
      rw [Array.getElem?_eq_getElem h3] at hb1; exact Option.some.inj hb1
    simp [World.setCell, Array.getElem_modify, h3, h4]
  have hnb : ∀ g, tv'.ownBlock = some g → g ≠ bk := by
    intro g h e
    subst e
    obtain ⟨cur, h2⟩ := ownBlock_heap ho h
    exact ne_type hb1 h2 (by decide) rfl
  have hL := S.list
  refine ⟨⟨S.book.base, hset, ?_, ?_, ?_⟩, ?_, ?_, S.mbne, ?_, ?_, ?_, S.lnew, ?_, S.small, S.kK⟩
  · rw [List.length_append, ecells_append]
    refine owns_keep (w := w1) ?_ (fun g hg => Below.heap_setCell w1 ⟨bk, 0, none⟩ tv' g (hnb g hg))
    exact ho
  · intro e he
    rcases List.mem_append.1 he with he | he
    · exact (S.book.fill e he).keep fun g hg => k37 g ((S.book.fill e he).heap hg)
    · simp at he; subst he
      exact (Owns.fill hL S.small).keep fun g hg => k37 g ((Owns.fill hL S.small).heap hg)
  · intro e he
    rcases List.mem_append.1 he with he | he
    · exact S.book.few e he
    · simp at he; subst he; exact S.kK
  · exact owns_keep hL fun g hg => k37 g (ownBlock_heap hL hg)
  · rw [k37 mb ⟨_, S.mbk⟩]; exact S.mbk
  · refine S.kp.trans2 (Y := fun g => some g = tv.ownBlock ∨ g = bk) ?_ ?_
    · refine ⟨hg.os.trans rfl, hg.tape.trans rfl, hg.output.trans rfl, ?_, fun g hg1 hx => ?_⟩
      · have := hg.size; simp; omega
      · rw [Below.heap_setCell w1 ⟨bk, 0, none⟩ tv' g (fun e => hx (.inr e))]
        exact kOld g hg1 (fun e => hx (.inl e))
    · rintro g hg1 (h | h)
      · rcases S.tnew with h2 | ⟨g2, h2, h3⟩
        · exact .inr (.inr (h.trans h2))
        · rw [h2] at h; injection h with h; omega
      · exact .inr (.inl h)
  · intro e he
    rcases List.mem_append.1 he with he | he
    · exact S.ent e he
    · simp at he; subst he
      right
      obtain ⟨ao, cap, h⟩ := hL.shape
      rw [marks_len] at h
      simp [h, sliceLen]
  · intro e he
    rcases List.mem_append.1 he with he | he
    · exact S.new e he
    · simp at he; subst he; exact .inr S.lnew
  · rcases hat with h | ⟨g, h, h2⟩
    · rcases S.tnew with h3 | h3
      · exact .inl (h.trans h3)
      · exact .inr (by rw [h]; exact h3)
    · exact .inr ⟨g, h, by have := S.kp.size; omega⟩

theorem St.stepL {w0 w w1 : World} {A B bk mb K : Nat} {L0 tv0 : Value} {es0 : List (Value × Nat)} {tv : Value} {es : List (Value × Nat)} {L L' : Value} {n : Nat} {o : Obj}
    (S : St w0 w A B bk mb K L0 tv0 es0 tv es L n) (hn : n + 1 ≤ 4200) (hg : (w.alloc o).grownBy w1 L.ownBlock) (ho : w1.ownsRow A 37 4 L' (n + 1) (Sc.tcells (marks n K) ++ (mkTok K).cells))
    (hat : L'.ownBlock = L.ownBlock ∨ ∃ g, L'.ownBlock = some g ∧ w.heap.size + 1 ≤ g)
    (hc : ∀ g j, L.ownBlock = some g → j < n * 4 → w1.cell? ⟨g, j, none⟩ = (w.alloc o).cell? ⟨g, j, none⟩) (hty : ∀ g, L.ownBlock = some g → ∃ cur, w1.heap[g]? = some (Obj.cells cur 37 (0, 0))) :
    St w0 w1 A B bk mb K L0 tv0 es0 tv es L' (n + 1) := by
  have hsz : (w.alloc o).heap.size = w.heap.size + 1 := by simp
  have kOld : ∀ g, g < w.heap.size → some g ≠ L.ownBlock → w1.heap[g]? = w.heap[g]? := fun g hg1 hg2 => (hg.block g (by omega) hg2).trans (Below.heap_alloc w o g hg1)
  have hL := S.list
  have hLlt : ∀ g, L.ownBlock = some g → g < w.heap.size := fun g h => by obtain ⟨cur, h2⟩ := ownBlock_heap hL h; exact lt_of_heap h2
  have kT : ∀ (g e : Nat) (c : Array Value), w.heap[g]? = some (Obj.cells c e (0, 0)) → e ≠ 37 → w1.heap[g]? = w.heap[g]? := by
    intro g e c h1 h2
    refine kOld g (lt_of_heap h1) fun x => ?_
    obtain ⟨cur, h3⟩ := ownBlock_heap hL x.symm
    exact ne_type h1 h3 h2 rfl
  refine ⟨⟨S.book.base, ?_, ?_, ?_, S.book.few⟩, ?_, ?_, ?_, ?_, ?_, S.new, ?_, S.tnew, hn, S.kK⟩
  · rw [kT _ _ _ S.book.block (by decide)]; exact S.book.block
  · refine owns_keep S.book.own fun g hg2 => ?_
    obtain ⟨cur, h2⟩ := ownBlock_heap S.book.own hg2
    exact kT g _ _ h2 (by decide)
  · intro e he
    have hf := S.book.fill e he
    by_cases hx : e.1.ownBlock = L.ownBlock
    · have hlen := (S.ent e he).resolve_left (fun h => h hx)
      refine hf.part fun g hg2 => ⟨hty g (hx ▸ hg2), fun j hj => ?_⟩
      have hlt := hLlt g (hx ▸ hg2)
      rw [hc g j (hx ▸ hg2) (by have := Nat.mul_le_mul_right 4 hlen; omega)]
      exact World.cell?_of_block (Below.heap_alloc w o g hlt)
    · refine hf.keep fun g hg2 => ?_
      obtain ⟨cur, h2⟩ := hf.heap hg2
      exact kOld g (lt_of_heap h2) (fun x => hx (hg2.trans x))
  · unfold Owns; rw [marks_succ, Sc.tcells_append, List.length_append, marks_len]
    simpa [Sc.tcells] using ho
  · rw [kOld mb (lt_of_heap S.mbk) (fun x => S.mbne x.symm)]; exact S.mbk
  · rcases hat with h | ⟨g, h, h2⟩
    · rw [h]; exact S.mbne
    · rw [h]; intro e; injection e with e; have := lt_of_heap S.mbk; omega
  · refine S.kp.trans2 (Y := fun g => some g = L.ownBlock) ?_ ?_
    · exact ⟨hg.os.trans rfl, hg.tape.trans rfl, hg.output.trans rfl, by have := hg.size; omega, fun g hg1 hx => kOld g hg1 hx⟩
    · intro g hg1 h
      rcases S.lnew with h2 | ⟨g2, h2, h3⟩
      · exact .inl (h.trans h2)
      · rw [h2] at h; injection h with h; omega
  · intro e he
    rcases hat with h | ⟨g, h, h2⟩
    · rw [h]; exact (S.ent e he).imp id (fun h => by omega)
    · left; intro e2
      rw [h] at e2
      obtain ⟨cur, h4⟩ := (S.book.fill e he).heap e2
      have := lt_of_heap h4; omega
  · rcases hat with h | ⟨g, h, h2⟩
    · rw [h]; exact S.lnew
    · exact .inr ⟨g, h, by have := S.kp.size; omega⟩

theorem set4 (P R : List Value) (x0 x1 x2 x3 a b c d : Value) (p : Nat) (hp : P.length = p) : ((((P ++ ([x0, x1, x2, x3] ++ R)).set p a).set (p + 1) b).set (p + 2) c).set (p + 3) d = P ++ ([a, b, c, d] ++ R) := by
  subst hp
  simp [List.set_append_right]
theorem store4 {w : World} {A g cap i K : Nat} {ts : List Sc.Tok} (hi : i < ts.length) (h : w.ownsRow A 37 4 (.slice (some ⟨g, 0, none⟩) ts.length cap) ts.length (Sc.tcells (marks i K ++ ts.drop i))) :
    Owns ((((w.setCell ⟨g, i * 4, none⟩ (.int .i64 (-1 - (K : Int)))).setCell ⟨g, i * 4 + 1, none⟩ (.string ⟨#[]⟩)).setCell ⟨g, i * 4 + 2, none⟩ (.int .i64 0)).setCell ⟨g, i * 4 + 3, none⟩ (.bool false)) A (.slice (some ⟨g, 0, none⟩) ts.length cap) (marks (i + 1) K ++ ts.drop (i + 1)) := by
  have e1 : Sc.tcells (marks i K ++ ts.drop i) = Sc.tcells (marks i K) ++ (ts[i].cells ++ Sc.tcells (ts.drop (i + 1))) := by
    rw [List.drop_eq_getElem_cons hi, Sc.tcells_append]; rfl
  have e2 : Sc.tcells (marks (i + 1) K ++ ts.drop (i + 1)) = Sc.tcells (marks i K) ++ ((mkTok K).cells ++ Sc.tcells (ts.drop (i + 1))) := by
    rw [marks_succ, Sc.tcells_append, Sc.tcells_append, List.append_assoc]; simp [Sc.tcells]
  have hp : (Sc.tcells (marks i K)).length = i * 4 := by rw [Sc.tcells_len, marks_len]
  have s := (World.ownsRow.stored (World.ownsRow.stored (World.ownsRow.stored (World.ownsRow.stored h (i * 4) (.int .i64 (-1 - (K : Int)))).1 (i * 4 + 1) (.string ⟨#[]⟩)).1 (i * 4 + 2) (.int .i64 0)).1 (i * 4 + 3) (.bool false)).1
  rw [e1] at s
  unfold Owns
  have hl : (marks (i + 1) K ++ ts.drop (i + 1)).length = ts.length := by rw [List.length_append, marks_len, List.length_drop]; omega
  rw [hl, e2]
  have key := set4 (Sc.tcells (marks i K)) (Sc.tcells (ts.drop (i + 1))) (.int .i64 ts[i].kind) (.string ⟨ts[i].text.toArray⟩) (.int .i64 ts[i].place) (.bool ts[i].behind) (.int .i64 (-1 - (K : Int))) (.string ⟨#[]⟩) (.int .i64 0) (.bool false) (i * 4) hp
  unfold Sc.Tok.cells at s ⊢
  rw [key] at s
  exact s
end Go.Proofs.YtoieklacpkahbaaDoor
namespace Go.Proofs.YtoieklacpkahbaaDoor
open Go.RowKit

theorem infoOut : (Tryd.prog.info? 53).map (fun i => (i.zero, i.size, i.bytes)) = some (some (.agg #[.slice none 0 0, .int .i64 0]), 2, 32) := by kernel_rfl
theorem two_new (w : World) (e : TypeId) (x0 x1 : Value) : ∀ j u, [x0, x1][j]? = some u → (w.alloc (.cells #[x0, x1] e)).cell? ((⟨w.heap.size, 0, none⟩ : Addr).add j) = some u := by
  intro j u hj
  match j, hj with
  | 0, hj => simp at hj; subst hj; simp [Addr.add]
  | 1, hj => simp at hj; subst hj; simp [Addr.add]
  | _ + 2, hj => simp at hj
theorem two_one (ao : Option Addr) (n c : Nat) (k : Int) : ∀ u ∈ [Value.slice ao n c, .int .i64 k], u.oneCell' = true := by
  intro u hu
  simp at hu
  rcases hu with rfl | rfl <;> rfl
theorem row_shape {w : World} {B e size n : Nat} {v : Value} {xs : List Value} (h : w.ownsRow B e size v n xs) : ∃ ao c, v = .slice ao n c := by
  rcases h.2 with ⟨rfl, hz⟩ | ⟨g, cap, cur, rfl, _⟩
  · exact ⟨_, _, by rw [hz]⟩
  · exact ⟨_, _, rfl⟩
theorem Bk.after {w w1 : World} {B bk : Nat} {tv : Value} {es : List (Value × Nat)} {o : Obj} (h : Bk w B bk tv es) (hg : (w.alloc o).grownBy w1 tv.ownBlock) : w1.heap[bk]? = some (.cells #[tv, .slice none 0 0, .slice none 0 0] 32 (0, 0)) := by
  have hblt := lt_of_heap h.block
  have hne : some bk ≠ tv.ownBlock := by
    intro e
    obtain ⟨cur, h2⟩ := ownBlock_heap h.own e.symm
    exact ne_type h.block h2 (by decide) rfl
  rw [hg.block bk (by simp; omega) hne, Below.heap_alloc w o bk hblt]
  exact h.block
theorem bk_cell {w : World} {bk : Nat} {tv a b : Value} (h : w.heap[bk]? = some (.cells #[tv, a, b] 32 (0, 0))) : w.cell? ⟨bk, 0, none⟩ = some tv ∧ w.frozen? ⟨bk, 0, none⟩ = false ∧ w.cell? ⟨bk, 1, none⟩ = some a ∧ w.cell? ⟨bk, 2, none⟩ = some b := by
  simp [World.cell?, World.frozen?, h]
theorem mk_cell {w : World} {mb K : Nat} (h : w.heap[mb]? = some (.cells (mkCells K) 37 (0, 0))) : w.cell? ⟨mb, 0, none⟩ = some (.int .i64 (-1 - (K : Int))) ∧ w.cell? ⟨mb, 1, none⟩ = some (.string ⟨#[]⟩) ∧ w.cell? ⟨mb, 2, none⟩ = some (.int .i64 0) ∧ w.cell? ⟨mb, 3, none⟩ = some (.bool false) := by
  simp [World.cell?, h, mkCells]
theorem St.start {w wr : World} {A B bk K : Nat} {tv : Value} {es : List (Value × Nat)} {L : Value} {n : Nat} (hbk : Bk w B bk tv es) (hw : Owns w A L (marks n K) ∨ ∃ ts, Owns w A L ts) (hL : Owns wr A L (marks n K)) (hn : n ≤ 4200) (hK : K ≤ 100)
    (hm : wr.heap[w.heap.size]? = some (.cells (mkCells K) 37 (0, 0))) (hk : Kp w wr (fun g => some g = L.ownBlock)) (hes : ∀ e ∈ es, ∀ g, e.1.ownBlock = some g → some g ≠ L.ownBlock) :
    St w wr A B bk w.heap.size K L tv es tv es L n := by
  have hw37 : ∀ g : Nat, L.ownBlock = some g → ∃ cur, w.heap[g]? = some (Obj.cells cur 37 (0, 0)) := by
    intro g hg
    rcases hw with h | ⟨ts, h⟩
    · exact ownBlock_heap h hg
    · exact ownBlock_heap h hg
  have kT : ∀ (g e : Nat) (c : Array Value), w.heap[g]? = some (Obj.cells c e (0, 0)) → e ≠ 37 → wr.heap[g]? = w.heap[g]? := by
    intro g e c h1 h2
    refine hk.keep g (lt_of_heap h1) fun x => ?_
    obtain ⟨cur, h3⟩ := hw37 g x.symm
    exact ne_type h1 h3 h2 rfl
  refine ⟨hbk.keep (kT _ _ _ hbk.block (by decide)) (fun g hg => ?_) (fun e he g hg => ?_), hL, hm, ?_, hk.mono fun g h => .inl h, fun e he => ?_, fun e he => .inl he, .inl rfl, .inl rfl, hn, hK⟩
  · obtain ⟨cur, h2⟩ := ownBlock_heap hbk.own hg
    exact kT g _ _ h2 (by decide)
  · obtain ⟨cur, h2⟩ := (hbk.fill e he).heap hg
    exact hk.keep g (lt_of_heap h2) (hes e he g hg)
  · intro x
    obtain ⟨cur, h3⟩ := hw37 _ x
    have := lt_of_heap h3; omega
  · cases hb : e.1.ownBlock with
    | some g => left; exact hes e he g hb
    | none =>
      right
      obtain ⟨ao, m, cap, e1, _, e3⟩ := hbk.fill e he
      rcases e3 with ⟨_, e4⟩ | ⟨g, e4, _⟩
      · rw [e1, e4]; simp [sliceLen]
      · rw [e1, e4] at hb; simp [Value.ownBlock] at hb

set_option maxRecDepth 20000 in
set_option maxHeartbeats 4000000 in
theorem ownTokens_any (ao : Option Addr) (cap : Nat) (ts : List Sc.Tok) (A B bk : Nat) (tv : Value) (es : List (Value × Nat)) (w : World) (hl : Owns w A (.slice ao ts.length cap) ts) (hn : ts.length ≤ 4096)
    (hbk : Bk w B bk tv es) (hes : es.length ≤ 8) (hA : A ≤ w.heap.size) (hB : B ≤ w.heap.size) (hne : ∀ e ∈ es, ∀ g, e.1.ownBlock = some g → some g ≠ (Value.slice ao ts.length cap).ownBlock) :
    Calls Tryd.prog 13 #[.pointer (some ⟨bk, 0, none⟩), .slice ao ts.length cap] w fun e w' => e = .returned (.tuple #[]) ∧ ∃ tv' es', Bk w' B bk tv' es' ∧ es'.length = es.length + 4 ∧
      Kp w w' (fun g => some g = (Value.slice ao ts.length cap).ownBlock ∨ g = bk ∨ some g = tv.ownBlock) ∧
      (∀ e ∈ es', e ∈ es ∨ e.1.ownBlock = (Value.slice ao ts.length cap).ownBlock ∨ ∃ g, e.1.ownBlock = some g ∧ w.heap.size ≤ g) := by
  obtain ⟨i0, hi, hz0, hz1, hz2⟩ := info_parts infoTok
  obtain ⟨i1, hi', hz0', hz1', hz2'⟩ := info_parts infoOut
  obtain ⟨tso, tc, htv⟩ : ∃ tso tc, tv = .slice tso es.length tc := by
    rcases hbk.own.2 with ⟨rfl, hz⟩ | ⟨g, cap, cur, rfl, _⟩
    · exact ⟨_, _, by rw [hz]⟩
    · exact ⟨_, _, rfl⟩
  subst htv
  obtain ⟨hc0, _, _, _⟩ := bk_cell hbk.block
  have HNE := hide hne
  clear hne
  go_enter Tryd.func13, Tryd.ntmps13
  go_wp2
  go_loopw [6] (fun x wr => ∃ i : Nat, i ≤ ts.length ∧ x = .int .i64 i ∧ Owns wr A (.slice ao ts.length cap) (marks i es.length ++ ts.drop i) ∧ Hid (wr.heap[w.heap.size]? = some (.cells (mkCells es.length) 37 (0, 0))) ∧
    Kp w wr (fun g => some g = (Value.slice ao ts.length cap).ownBlock)) (fun x _ => ts.length - (intOf x).toNat)
  case atStart => exact ⟨0, by omega, rfl, by rw [show marks 0 es.length = [] from rfl, List.drop_zero, List.nil_append]; exact World.ownsRow.alloc hl _, hide (heap_alloc_new w _), Kp.alloc _ _ _⟩
  case round =>
    obtain ⟨i, h1, rfl, ho, HM, hk⟩ := hrel
    by_cases hil : i < ts.length
    · have hlen : (marks i es.length ++ ts.drop i).length = ts.length := by simp [marks]; omega
      obtain ⟨g, hg1, -, -, hg4, hcap, c0, c1, c2, c3⟩ := ho.at i (by omega)
      obtain ⟨g', hg1', -, -, hg4', -, -, -, -, -⟩ := hl.at i hil
      rw [hlen] at hcap
      subst hg1
      injection hg1' with hg1'
      injection hg1' with hg1' _ _
      subst hg1'
      have ho' : wr.ownsRow A 37 4 (.slice (some ⟨g, 0, none⟩) ts.length cap) ts.length (Sc.tcells (marks i es.length ++ ts.drop i)) := by
        have := ho; unfold Owns at this; rw [hlen] at this; exact this
      have fz := fun j => World.ownsRow.frozenAt ho' j
      obtain ⟨m0, m1, m2, m3⟩ := mk_cell HM.out
      have HO := hide ho'
      generalize (marks i es.length ++ ts.drop i)[i]'(by omega) = old at c0 c1 c2 c3
      obtain ⟨ok, ot, op, ob⟩ := old
      simp only at c0 c1 c2 c3
      clear hlen ho' ho
      go_wp2
      go_roundw
      case rel =>
        refine ⟨i + 1, by omega, by go_num, store4 hil HO.out, ?_, ?_⟩
        · refine hide ?_
          rw [Below.heap_setCell _ _ _ _ (by show _ ≠ g; omega), Below.heap_setCell _ _ _ _ (by show _ ≠ g; omega), Below.heap_setCell _ _ _ _ (by show _ ≠ g; omega), Below.heap_setCell _ _ _ _ (by show _ ≠ g; omega)]
          exact HM.out
        · have hs : ∀ (W : World) (j : Nat) (u : Value), Kp W (W.setCell ⟨g, j, none⟩ u) (fun x => some x = (Value.slice (some ⟨g, 0, none⟩) ts.length cap).ownBlock) := fun W j u => (Kp.setCell W ⟨g, j, none⟩ u).mono fun x h => by subst h; rfl
          exact (((hk.trans (hs _ _ _)).trans (hs _ _ _)).trans (hs _ _ _)).trans (hs _ _ _)
      case measure => simp [intOf]; omega
    · have hie : i = ts.length := by omega
      have hoL : Owns wr A (.slice ao ts.length cap) (marks ts.length es.length) := by rw [hie, List.drop_length, List.append_nil] at ho; exact ho
      have S := St.start hbk (.inr ⟨ts, hl⟩) hoL (by omega) (by omega) HM.out hk HNE.out
      clear hoL hie ho
      obtain ⟨b0, -, -, -⟩ := bk_cell S.book.block
      have hsz := hk.size
      go_wp2_with (at_builtin; refine wpList_append_keep _ rfl (.tmp 30) (.tmp 34) 28 rfl B 53 i1 _ 2 32 Tryd.underlying28 hi' hz0' hz1' hz2' rfl (by decide) _ _ _ rfl (World.ownsRow.alloc S.book.own _) ⟨wr.heap.size, 0, none⟩ 1 1 [.slice ao ts.length cap, .int .i64 (es.length : Int)] rfl rfl (two_new _ _ _ _) (two_one _ _ _ _) ?c3 ?c4 ?c5 ?_)
      case c3 => unfold maxLen; omega
      case c4 => omega
      case c5 => simp; omega
      intro tv1 w1 ho1 hg1 hat1 hc1 hty1
      obtain ⟨to1, tc1, rfl⟩ := row_shape ho1
      obtain ⟨q0, q1, -, -⟩ := bk_cell (S.book.after hg1)
      have S1 := S.stepT hg1 ho1 hat1
      have hw1 := hg1.size
      clear ho1 hg1 hat1 hc1 hty1 S b0 hk HM
      go_wp2
      go_loopw [1, 7] (fun l x ww => ∃ (j : Nat) (es1 : List (Value × Nat)) (tv2 : Value), j ≤ 3 ∧ x = .int .i64 j ∧ es1.length = es.length + 1 + j ∧
        St w ww A B bk w.heap.size es.length (.slice ao ts.length cap) (.slice tso es.length tc) es tv2 es1 l (ts.length + j)) (fun _ x _ => 3 - (intOf x).toNat)
      case atStart => exact ⟨0, _, _, by omega, rfl, by simp, S1⟩
      case round =>
        obtain ⟨j, es1, tv2, j1, rfl, j2, S2⟩ := hrel
        have J2 := hide j2
        have j3 : es1.length ≤ 20 := by omega
        clear j2
        clear S1
        obtain ⟨lo, lc, hle⟩ := S2.list.shape
        rw [marks_len] at hle
        rw [hle] at S2
        rw [hle]
        clear hle
        obtain ⟨to2, tc2, hte⟩ := row_shape S2.book.own
        subst hte
        by_cases hj : j < 3
        · obtain ⟨m0, m1, m2, m3⟩ := mk_cell S2.mbk
          have hsz2 := S2.kp.size
          have hol : wr.ownsRow A 37 4 (.slice lo (ts.length + j) lc) (ts.length + j) (Sc.tcells (marks (ts.length + j) es.length)) := by
            have := S2.list; unfold Owns at this; rw [marks_len] at this; exact this
          have HOL := hide hol
          clear hol
          go_wp2_with (at_builtin; refine wpList_append_keep _ rfl (.tmp 42) (.tmp 44) 22 rfl A 37 i0 _ 4 40 Tryd.underlying22 hi hz0 hz1 hz2 rfl (by decide) _ _ _ rfl (World.ownsRow.alloc HOL.out _) ⟨wr.heap.size, 0, none⟩ 1 1 [.int .i64 (-1 - (es.length : Int)), .string ⟨#[]⟩, .int .i64 0, .bool false] rfl rfl (four_new _ _ _ _ _ _) (four_one _ _ _ _) ?c3 ?c4 ?c5 ?_)
          case c3 => unfold maxLen; omega
          case c4 => omega
          case c5 => simp; omega
          intro L3 w3 ho3 hg3 hat3 hc3 hty3
          obtain ⟨lo3, lc3, rfl⟩ := row_shape ho3
          have S3 := S2.stepL (by omega) hg3 ho3 hat3 hc3 hty3
          have hw3 := hg3.size
          clear ho3 hg3 hat3 hc3 hty3 S2 HOL m0 m1 m2 m3
          obtain ⟨b0, -, -, -⟩ := bk_cell S3.book.block
          have hsz3 := S3.kp.size
          go_wp2_with (at_builtin; refine wpList_append_keep _ rfl (.tmp 50) (.tmp 54) 28 rfl B 53 i1 _ 2 32 Tryd.underlying28 hi' hz0' hz1' hz2' rfl (by decide) _ _ _ rfl (World.ownsRow.alloc S3.book.own _) ⟨w3.heap.size, 0, none⟩ 1 1 [.slice lo3 (ts.length + j + 1) lc3, .int .i64 (es.length : Int)] rfl rfl (two_new _ _ _ _) (two_one _ _ _ _) ?c3 ?c4 ?c5 ?_)
          case c3 => unfold maxLen; omega
          case c4 => omega
          case c5 => simp; omega
          intro tv4 w4 ho4 hg4 hat4 hc4 hty4
          obtain ⟨to4, tc4, rfl⟩ := row_shape ho4
          obtain ⟨q0, q1, -, -⟩ := bk_cell (S3.book.after hg4)
          have S4 := S3.stepT hg4 ho4 hat4
          clear ho4 hg4 hat4 hc4 hty4 S3 b0
          go_wp2
          go_roundw
          case rel => exact ⟨j + 1, _, _, by omega, by go_num, by rw [List.length_append, J2.out]; simp; omega, S4⟩
          case measure => simp [intOf]; omega
        · go_wp2
          go_end0
          exact ⟨rfl, _, _, S2.book, by rw [J2.out]; omega, S2.kp, S2.new⟩
end Go.Proofs.YtoieklacpkahbaaDoor
