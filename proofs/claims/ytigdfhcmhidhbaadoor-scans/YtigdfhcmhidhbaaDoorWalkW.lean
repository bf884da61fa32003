/- Walks: ownTokens. -/
import Derived.Test.YtigdfhcmhidhbaaDoorBook
namespace Go.Proofs.YtigdfhcmhidhbaaDoor
open Go.RowKit

theorem infoOut : (Tryd.prog.info? 53).map (fun i => (i.zero, i.size, i.bytes)) = some (some (.agg #[.slice none 0 0, .int .i64 0]), 2, 32) := by kernel_rfl
theorem two_new (w : World) (e : TypeId) (x0 x1 : Value) : ∀ j u, [x0, x1][j]? = some u → (w.alloc (.cells #[x0, x1] e)).cell? ((⟨w.heap.size, 0, none⟩ : Addr).add j) = some u := by
  intro j u hj
  match j, hj with
  | 0, hj => simp at hj; subst hj; simp [Addr.add]
  | 1, hj => simp at hj; subst hj; simp [Addr.add]
  | _ + 2, hj => simp at hj
theorem two_one (ao : Option Addr) (n c : Nat) (k : Int) : ∀ u ∈ [Value.slice ao n c, .int .i64 k], u.oneCell' = true := by
  intro u hu
  simp at hu
  rcases hu with rfl | rfl <;> rfl
theorem row_shape {w : World} {B e size n : Nat} {v : Value} {xs : List Value} (h : w.ownsRow B e size v n xs) : ∃ ao c, v = .slice ao n c := by
  rcases h.2 with ⟨rfl, hz⟩ | ⟨g, cap, cur, rfl, _⟩
  · exact ⟨_, _, by rw [hz]⟩
  · exact ⟨_, _, rfl⟩
theorem Bk.after {w w1 : World} {B bk : Nat} {tv : Value} {es : List (Value × Nat)} {o : Obj} (h : Bk w B bk tv es) (hg : (w.alloc o).grownBy w1 tv.ownBlock) : w1.heap[bk]? = some (.cells #[tv, .slice none 0 0, .slice none 0 0] 32 (0, 0)) := by
  have hblt := lt_of_heap h.block
  have hne : some bk ≠ tv.ownBlock := by
    intro e
    obtain ⟨cur, h2⟩ := ownBlock_heap h.own e.symm
    exact ne_type h.block h2 (by decide) rfl
  rw [hg.block bk (by simp; omega) hne, Below.heap_alloc w o bk hblt]
  exact h.block
theorem bk_cell {w : World} {bk : Nat} {tv a b : Value} (h : w.heap[bk]? = some (.cells #[tv, a, b] 32 (0, 0))) : w.cell? ⟨bk, 0, none⟩ = some tv ∧ w.frozen? ⟨bk, 0, none⟩ = false ∧ w.cell? ⟨bk, 1, none⟩ = some a ∧ w.cell? ⟨bk, 2, none⟩ = some b := by
  simp [World.cell?, World.frozen?, h]
theorem mk_cell {w : World} {mb K : Nat} (h : w.heap[mb]? = some (.cells (mkCells K) 37 (0, 0))) : w.cell? ⟨mb, 0, none⟩ = some (.int .i64 (-1 - (K : Int))) ∧ w.cell? ⟨mb, 1, none⟩ = some (.string ⟨#[]⟩) ∧ w.cell? ⟨mb, 2, none⟩ = some (.int .i64 0) ∧ w.cell? ⟨mb, 3, none⟩ = some (.bool false) := by
  simp [World.cell?, h, mkCells]
theorem St.start {w wr : World} {A B bk K : Nat} {tv : Value} {es : List (Value × Nat)} {L : Value} {n : Nat} (hbk : Bk w B bk tv es) (hw : Owns w A L (marks n K) ∨ ∃ ts, Owns w A L ts) (hL : Owns wr A L (marks n K)) (hn : n ≤ 4200) (hK : K ≤ 100)
    (hm : wr.heap[w.heap.size]? = some (.cells (mkCells K) 37 (0, 0))) (hk : Kp w wr (fun g => some g = L.ownBlock)) (hes : ∀ e ∈ es, ∀ g, e.1.ownBlock = some g → some g ≠ L.ownBlock) :
    St w wr A B bk w.heap.size K L tv es tv es L n := by
  have hw37 : ∀ g : Nat, L.ownBlock = some g → ∃ cur, w.heap[g]? = some (Obj.cells cur 37 (0, 0)) := by
    intro g hg
    rcases hw with h | ⟨ts, h⟩
    · exact ownBlock_heap h hg
    · exact ownBlock_heap h hg
  have kT : ∀ (g e : Nat) (c : Array Value), w.heap[g]? = some (Obj.cells c e (0, 0)) → e ≠ 37 → wr.heap[g]? = w.heap[g]? := by
    intro g e c h1 h2
    refine hk.keep g (lt_of_heap h1) fun x => ?_
    obtain ⟨cur, h3⟩ := hw37 g x.symm
    exact ne_type h1 h3 h2 rfl
  refine ⟨hbk.keep (kT _ _ _ hbk.block (by decide)) (fun g hg => ?_) (fun e he g hg => ?_), hL, hm, ?_, hk.mono fun g h => .inl h, fun e he => ?_, fun e he => .inl he, .inl rfl, .inl rfl, hn, hK⟩
  · obtain ⟨cur, h2⟩ := ownBlock_heap hbk.own hg
    exact kT g _ _ h2 (by decide)
  · obtain ⟨cur, h2⟩ := (hbk.fill e he).heap hg
    exact hk.keep g (lt_of_heap h2) (hes e he g hg)
  · intro x
    obtain ⟨cur, h3⟩ := hw37 _ x
    have := lt_of_heap h3; omega
  · cases hb : e.1.ownBlock with
    | some g => left; exact hes e he g hb
    | none =>
      right
      obtain ⟨ao, m, cap, e1, _, e3⟩ := hbk.fill e he
      rcases e3 with ⟨_, e4⟩ | ⟨g, e4, _⟩
      · rw [e1, e4]; simp [sliceLen]
      · rw [e1, e4] at hb; simp [Value.ownBlock] at hb

set_option maxRecDepth 20000 in
set_option maxHeartbeats 4000000 in
theorem ownTokens_any (ao : Option Addr) (cap : Nat) (ts : List Sc.Tok) (A B bk : Nat) (tv : Value) (es : List (Value × Nat)) (w : World) (hl : Owns w A (.slice ao ts.length cap) ts) (hn : ts.length ≤ 4096)
    (hbk : Bk w B bk tv es) (hes : es.length ≤ 8) (hA : A ≤ w.heap.size) (hB : B ≤ w.heap.size) (hne : ∀ e ∈ es, ∀ g, e.1.ownBlock = some g → some g ≠ (Value.slice ao ts.length cap).ownBlock) :
    Calls Tryd.prog 13 #[.pointer (some ⟨bk, 0, none⟩), .slice ao ts.length cap] w fun e w' => e = .returned (.tuple #[]) ∧ ∃ tv' es', Bk w' B bk tv' es' ∧ es'.length = es.length + 4 ∧
      Kp w w' (fun g => some g = (Value.slice ao ts.length cap).ownBlock ∨ g = bk ∨ some g = tv.ownBlock) ∧
      (∀ e ∈ es', e ∈ es ∨ e.1.ownBlock = (Value.slice ao ts.length cap).ownBlock ∨ ∃ g, e.1.ownBlock = some g ∧ w.heap.size ≤ g) := by
  obtain ⟨i0, hi, hz0, hz1, hz2⟩ := info_parts infoTok
  obtain ⟨i1, hi', hz0', hz1', hz2'⟩ := info_parts infoOut
  obtain ⟨tso, tc, htv⟩ : ∃ tso tc, tv = .slice tso es.length tc := by
    rcases hbk.own.2 with ⟨rfl, hz⟩ | ⟨g, cap, cur, rfl, _⟩
    · exact ⟨_, _, by rw [hz]⟩
    · exact ⟨_, _, rfl⟩
  subst htv
  obtain ⟨hc0, _, _, _⟩ := bk_cell hbk.block
  have HNE := hide hne
  clear hne
  go_enter Tryd.func13, Tryd.ntmps13
  go_wp2
  go_loopw [6] (fun x wr => ∃ i : Nat, i ≤ ts.length ∧ x = .int .i64 i ∧ Owns wr A (.slice ao ts.length cap) (marks i es.length ++ ts.drop i) ∧ Hid (wr.heap[w.heap.size]? = some (.cells (mkCells es.length) 37 (0, 0))) ∧
    Kp w wr (fun g => some g = (Value.slice ao ts.length cap).ownBlock)) (fun x _ => ts.length - (intOf x).toNat)
  case atStart => exact ⟨0, by omega, rfl, by rw [show marks 0 es.length = [] from rfl, List.drop_zero, List.nil_append]; exact World.ownsRow.alloc hl _, hide (heap_alloc_new w _), Kp.alloc _ _ _⟩
  case round =>
    obtain ⟨i, h1, rfl, ho, HM, hk⟩ := hrel
    by_cases hil : i < ts.length
    · have hlen : (marks i es.length ++ ts.drop i).length = ts.length := by simp [marks]; omega
      obtain ⟨g, hg1, -, -, hg4, hcap, c0, c1, c2, c3⟩ := ho.at i (by omega)
      obtain ⟨g', hg1', -, -, hg4', -, -, -, -, -⟩ := hl.at i hil
      rw [hlen] at hcap
      subst hg1
      injection hg1' with hg1'
      injection hg1' with hg1' _ _
      subst hg1'
      have ho' : wr.ownsRow A 37 4 (.slice (some ⟨g, 0, none⟩) ts.length cap) ts.length (Sc.tcells (marks i es.length ++ ts.drop i)) := by
        have := ho; unfold Owns at this; rw [hlen] at this; exact this
      have fz := fun j => World.ownsRow.frozenAt ho' j
      obtain ⟨m0, m1, m2, m3⟩ := mk_cell HM.out
      have HO := hide ho'
      generalize (marks i es.length ++ ts.drop i)[i]'(by omega) = old at c0 c1 c2 c3
      obtain ⟨ok, ot, op, ob⟩ := old
      simp only at c0 c1 c2 c3
      clear hlen ho' ho
      go_wp2
      go_roundw
      case rel =>
        refine ⟨i + 1, by omega, by go_num, store4 hil HO.out, ?_, ?_⟩
        · refine hide ?_
          rw [Below.heap_setCell _ _ _ _ (by show _ ≠ g; omega), Below.heap_setCell _ _ _ _ (by show _ ≠ g; omega), Below.heap_setCell _ _ _ _ (by show _ ≠ g; omega), Below.heap_setCell _ _ _ _ (by show _ ≠ g; omega)]
          exact HM.out
        · have hs : ∀ (W : World) (j : Nat) (u : Value), Kp W (W.setCell ⟨g, j, none⟩ u) (fun x => some x = (Value.slice (some ⟨g, 0, none⟩) ts.length cap).ownBlock) := fun W j u => (Kp.setCell W ⟨g, j, none⟩ u).mono fun x h => by subst h; rfl
          exact (((hk.trans (hs _ _ _)).trans (hs _ _ _)).trans (hs _ _ _)).trans (hs _ _ _)
      case measure => simp [intOf]; omega
    · have hie : i = ts.length := by omega
      have hoL : Owns wr A (.slice ao ts.length cap) (marks ts.length es.length) := by rw [hie, List.drop_length, List.append_nil] at ho; exact ho
      have S := St.start hbk (.inr ⟨ts, hl⟩) hoL (by omega) (by omega) HM.out hk HNE.out
      clear hoL hie ho
      obtain ⟨b0, -, -, -⟩ := bk_cell S.book.block
      have hsz := hk.size
      go_wp2_with (at_builtin; refine wpList_append_keep _ rfl (.tmp 30) (.tmp 34) 28 rfl B 53 i1 _ 2 32 Tryd.underlying28 hi' hz0' hz1' hz2' rfl (by decide) _ _ _ rfl (World.ownsRow.alloc S.book.own _) ⟨wr.heap.size, 0, none⟩ 1 1 [.slice ao ts.length cap, .int .i64 (es.length : Int)] rfl rfl (two_new _ _ _ _) (two_one _ _ _ _) ?c3 ?c4 ?c5 ?_)
      case c3 => unfold maxLen; omega
      case c4 => omega
      case c5 => simp; omega
      intro tv1 w1 ho1 hg1 hat1 hc1 hty1
      obtain ⟨to1, tc1, rfl⟩ := row_shape ho1
      obtain ⟨q0, q1, -, -⟩ := bk_cell (S.book.after hg1)
      have S1 := S.stepT hg1 ho1 hat1
      have hw1 := hg1.size
      clear ho1 hg1 hat1 hc1 hty1 S b0 hk HM
      go_wp2
      go_loopw [1, 7] (fun l x ww => ∃ (j : Nat) (es1 : List (Value × Nat)) (tv2 : Value), j ≤ 3 ∧ x = .int .i64 j ∧ es1.length = es.length + 1 + j ∧
        St w ww A B bk w.heap.size es.length (.slice ao ts.length cap) (.slice tso es.length tc) es tv2 es1 l (ts.length + j)) (fun _ x _ => 3 - (intOf x).toNat)
      case atStart => exact ⟨0, _, _, by omega, rfl, by simp, S1⟩
      case round =>
        obtain ⟨j, es1, tv2, j1, rfl, j2, S2⟩ := hrel
        have J2 := hide j2
        have j3 : es1.length ≤ 20 := by omega
        clear j2
        clear S1
        obtain ⟨lo, lc, hle⟩ := S2.list.shape
        rw [marks_len] at hle
        rw [hle] at S2
        rw [hle]
        clear hle
        obtain ⟨to2, tc2, hte⟩ := row_shape S2.book.own
        subst hte
        by_cases hj : j < 3
        · obtain ⟨m0, m1, m2, m3⟩ := mk_cell S2.mbk
          have hsz2 := S2.kp.size
          have hol : wr.ownsRow A 37 4 (.slice lo (ts.length + j) lc) (ts.length + j) (Sc.tcells (marks (ts.length + j) es.length)) := by
            have := S2.list; unfold Owns at this; rw [marks_len] at this; exact this
          have HOL := hide hol
          clear hol
          go_wp2_with (at_builtin; refine wpList_append_keep _ rfl (.tmp 42) (.tmp 44) 22 rfl A 37 i0 _ 4 40 Tryd.underlying22 hi hz0 hz1 hz2 rfl (by decide) _ _ _ rfl (World.ownsRow.alloc HOL.out _) ⟨wr.heap.size, 0, none⟩ 1 1 [.int .i64 (-1 - (es.length : Int)), .string ⟨#[]⟩, .int .i64 0, .bool false] rfl rfl (four_new _ _ _ _ _ _) (four_one _ _ _ _) ?c3 ?c4 ?c5 ?_)
          case c3 => unfold maxLen; omega
          case c4 => omega
          case c5 => simp; omega
          intro L3 w3 ho3 hg3 hat3 hc3 hty3
          obtain ⟨lo3, lc3, rfl⟩ := row_shape ho3
          have S3 := S2.stepL (by omega) hg3 ho3 hat3 hc3 hty3
          have hw3 := hg3.size
          clear ho3 hg3 hat3 hc3 hty3 S2 HOL m0 m1 m2 m3
          obtain ⟨b0, -, -, -⟩ := bk_cell S3.book.block
          have hsz3 := S3.kp.size
          go_wp2_with (at_builtin; refine wpList_append_keep _ rfl (.tmp 50) (.tmp 54) 28 rfl B 53 i1 _ 2 32 Tryd.underlying28 hi' hz0' hz1' hz2' rfl (by decide) _ _ _ rfl (World.ownsRow.alloc S3.book.own _) ⟨w3.heap.size, 0, none⟩ 1 1 [.slice lo3 (ts.length + j + 1) lc3, .int .i64 (es.length : Int)] rfl rfl (two_new _ _ _ _) (two_one _ _ _ _) ?c3 ?c4 ?c5 ?_)
          case c3 => unfold maxLen; omega
          case c4 => omega
          case c5 => simp; omega
          intro tv4 w4 ho4 hg4 hat4 hc4 hty4
          obtain ⟨to4, tc4, rfl⟩ := row_shape ho4
          obtain ⟨q0, q1, -, -⟩ := bk_cell (S3.book.after hg4)
          have S4 := S3.stepT hg4 ho4 hat4
          clear ho4 hg4 hat4 hc4 hty4 S3 b0
          go_wp2
          go_roundw
          case rel => exact ⟨j + 1, _, _, by omega, by go_num, by rw [List.length_append, J2.out]; simp; omega, S4⟩
          case measure => simp [intOf]; omega
        · go_wp2
          go_end0
          exact ⟨rfl, _, _, S2.book, by rw [J2.out]; omega, S2.kp, S2.new⟩
end Go.Proofs.YtigdfhcmhidhbaaDoor
