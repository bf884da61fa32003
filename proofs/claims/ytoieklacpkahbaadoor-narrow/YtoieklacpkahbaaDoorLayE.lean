/- Walks: the program's reader: rows of elements. -/
import Derived.Test.YtoieklacpkahbaaDoorLayD
import Derived.Test.YtoieklacpkahbaaDoorPlainM
import Derived.Maps.AppendAt
import Derived.Deep.RegionWith
namespace Go.Proofs.YtoieklacpkahbaaDoor
open Go.RowKit
theorem infoEl : (Tryd.prog.info? 85).map (fun i => (i.zero, i.size, i.bytes)) = some (some (.agg #[.int .i64 0, .string ⟨#[]⟩, .int .i64 0, .bool false, .slice none 0 0, .int .i64 0]), 6, 72) := by kernel_rfl
theorem six_new (w : World) (e : TypeId) (x0 x1 x2 x3 x4 x5 : Value) : ∀ j u, [x0, x1, x2, x3, x4, x5][j]? = some u → (w.alloc (.cells #[x0, x1, x2, x3, x4, x5] e)).cell? ((⟨w.heap.size, 0, none⟩ : Addr).add j) = some u := by
  intro j u hj
  match j, hj with
  | 0, hj => simp at hj; subst hj; simp [Addr.add]
  | 1, hj => simp at hj; subst hj; simp [Addr.add]
  | 2, hj => simp at hj; subst hj; simp [Addr.add]
  | 3, hj => simp at hj; subst hj; simp [Addr.add]
  | 4, hj => simp at hj; subst hj; simp [Addr.add]
  | 5, hj => simp at hj; subst hj; simp [Addr.add]
  | _ + 6, hj => simp at hj
theorem hd_one (t : Sc.Tok) (p f : Int) (ao : Option Addr) (n cap : Nat) : ∀ u ∈ hd t p (.slice ao n cap) f, u.oneCell' = true := by
  intro u hu; simp [hd] at hu
  rcases hu with rfl | rfl | rfl | rfl | rfl | rfl <;> rfl

theorem Owns.fr {w w' : World} {B0 g cap N x : Nat} {ts : List Sc.Tok} (h : Owns w B0 (.slice (some ⟨g, 0, none⟩) ts.length cap) ts) (hf : Fr N x w w') (hg : g < N) (hx : g ≠ x) : Owns w' B0 (.slice (some ⟨g, 0, none⟩) ts.length cap) ts := by
  refine ⟨h.1, ?_⟩
  rcases h.2 with ⟨hn, _⟩ | ⟨g', cap', cur, e1, hB, hgg, rest⟩
  · cases hn
  · injection e1 with e1 e2 e3
    injection e1 with e1
    injection e1 with e1 _ _
    subst e1 e3
    exact .inr ⟨g, cap, cur, rfl, hB, (hf.block g hg hx).trans hgg, rest⟩
theorem ownsRow_fr {w w' : World} {B x : Nat} {e : TypeId} {size n : Nat} {v : Value} {xs : List Value} (h : w.ownsRow B e size v n xs) (hf : Fr w.heap.size x w w') (hx : x < B) : w'.ownsRow B e size v n xs := by
  refine ⟨h.1, ?_⟩
  rcases h.2 with hn | ⟨g, cap, cur, rfl, hB, hgg, rest⟩
  · exact .inl hn
  · exact .inr ⟨g, cap, cur, rfl, hB, (hf.block g (Array.getElem?_eq_some_iff.1 hgg).1 (by omega)).trans hgg, rest⟩

/-- What the reader does at an element. -/
def ReadC (e : Sc.El) : Prop := ∀ (rb g i : Nat) (ts : List Sc.Tok) (cap B0 : Nat) (w : World) (rest : List Sc.Tok), Owns w B0 (.slice (some ⟨g, 0, none⟩) ts.length cap) ts → RdAt rb g i ts.length cap w → g ≠ rb → ts.length ≤ 4096 → (ts.drop i).map Sc.erase = e.toks ++ rest →
  Calls Tryd.prog 62 #[.pointer (some ⟨rb, 0, none⟩)] w fun r w' => ∃ p ao n c, r = .returned (.agg #[.int .i64 e.first.kind, .string ⟨e.first.text.toArray⟩, .int .i64 p, .bool e.first.behind, .slice ao n c, .int .i64 e.fl]) ∧
    ElAt (fun k => w.heap.size ≤ k) w' e (hd e.first p (.slice ao n c) e.fl) ∧ RdAt rb g (i + e.toks.length) ts.length cap w' ∧ Fr w.heap.size rb w w'
def ReadsC (es : List Sc.El) : Prop := ∀ (rb g i : Nat) (ts : List Sc.Tok) (cap B0 : Nat) (w : World) (rest : List Sc.Tok), Owns w B0 (.slice (some ⟨g, 0, none⟩) ts.length cap) ts → RdAt rb g i ts.length cap w → g ≠ rb → ts.length ≤ 4096 → (ts.drop i).map Sc.erase = Sc.toksL es ++ rest → (∀ c r, rest = c :: r → c.kind = 3) →
  Calls Tryd.prog 46 #[.pointer (some ⟨rb, 0, none⟩)] w fun r w' => ∃ v, r = .returned v ∧ RowV (fun k => w.heap.size ≤ k) w' es.length v (ElsAt (fun k => w.heap.size ≤ k) w' es) ∧ RdAt rb g (i + (Sc.toksL es).length) ts.length cap w' ∧ Fr w.heap.size rb w w'

theorem toksL_split : ∀ (es : List Sc.El) (k : Nat) (hk : k < es.length), Sc.toksL es = Sc.toksL (es.take k) ++ (es[k].toks ++ Sc.toksL (es.drop (k + 1))) := by
  intro es
  induction es with
  | nil => intro k hk; simp at hk
  | cons e es ih =>
    intro k hk
    cases k with
    | zero => simp [Sc.toksL]
    | succ k =>
      simp only [List.take_succ_cons, List.getElem_cons_succ, List.drop_succ_cons, Sc.toksL, List.append_assoc]
      rw [← ih k (by simpa using hk)]
theorem toksL_app : ∀ (a b : List Sc.El), Sc.toksL (a ++ b) = Sc.toksL a ++ Sc.toksL b
  | [], _ => rfl
  | e :: a, b => by rw [List.cons_append, Sc.toksL, Sc.toksL, toksL_app a b, List.append_assoc]
theorem WFL_at : ∀ {es : List Sc.El}, Sc.WFL es → ∀ k (hk : k < es.length), es[k].WF
  | [], _, k, hk => by simp at hk
  | e :: es, h, k, hk => by
    simp only [Sc.WFL] at h
    cases k with
    | zero => exact h.1
    | succ k => exact WFL_at h.2 k (by simpa using hk)

theorem toksL_len : ∀ (es : List Sc.El), es.length ≤ (Sc.toksL es).length
  | [] => Nat.le_refl _
  | e :: es => by
    obtain ⟨x, hx⟩ := e.toks_first
    have := toksL_len es
    rw [Sc.toksL, List.length_append, hx, List.length_cons, List.length_cons]; omega
theorem RdAt.of {rb g i n cap : Nat} {w w' : World} (h : RdAt rb g i n cap w) (hb : w'.heap[rb]? = w.heap[rb]?) : RdAt rb g i n cap w' := by
  obtain ⟨ao, c, h1, h2⟩ := h
  exact ⟨ao, c, hb.trans h1, h2⟩
def restLen (rb : Nat) (w : World) : Nat := match w.cell? ⟨rb, 0, none⟩ with | some (.slice _ n _) => n | _ => 0
theorem RdAt.len {rb g i n cap : Nat} {w : World} (h : RdAt rb g i n cap w) : restLen rb w = n - i := by
  obtain ⟨ao, c, h1, _⟩ := h
  unfold restLen
  rw [Lib.cell_of_heap h1]; rfl

set_option maxRecDepth 100000 in
set_option maxHeartbeats 4000000 in
theorem elements_any (es : List Sc.El) (hC : ∀ e ∈ es, ReadC e) (hw : Sc.WFL es) : ReadsC es := by
  intro rb g i ts cap B0 w rest h hr hne hn htk hrest
  obtain ⟨i0, hi, hz0, hz1, hz2⟩ := info_parts infoEl
  have hrl : rb < w.heap.size := by obtain ⟨ao, c, h1, _⟩ := hr; exact (Array.getElem?_eq_some_iff.1 h1).1
  have hke : es.length ≤ 4096 := by
    have h1 := toksL_len es
    have h2 := congrArg List.length htk
    rw [List.length_map, List.length_drop, List.length_append] at h2
    omega
  have HC := hide hC; clear hC
  have HW := hide hw; clear hw
  have HT := hide htk; clear htk
  have HRS := hide hrest; clear hrest
  have HO := hide h
  have hgl : g < w.heap.size := by
    rcases h.2 with ⟨hn, _⟩ | ⟨g', cap', cur, e1, hB, hgg, _⟩
    · cases hn
    · injection e1 with e1; injection e1 with e1; injection e1 with e1 _ _; subst e1; exact (Array.getElem?_eq_some_iff.1 hgg).1
  clear h
  go_enter Tryd.func46, Tryd.ntmps46
  go_wp2
  go_loopw [3] (fun r wr => ∃ (k : Nat) (cs : List Value), k ≤ es.length ∧ wr.ownsRow w.heap.size 85 6 r k cs ∧ Hid (ElsAt (fun b => w.heap.size ≤ b ∧ r.ownBlock ≠ some b) wr (es.take k) cs) ∧ RdAt rb g (i + (Sc.toksL (es.take k)).length) ts.length cap wr ∧ Fr w.heap.size rb w wr) (fun _ wr => restLen rb wr)
  case atStart => exact ⟨0, [], by omega, World.ownsRow_nil _ _ _ _, hide (by simp [ElsAt]), by simpa [Sc.toksL] using hr, Fr.refl _ _ _⟩
  case round =>
    obtain ⟨k, cs, h1, hown, HE, hrd, hfr⟩ := hrel
    have hsz := hfr.size
    by_cases hlt : k < es.length
    · have htk := HT.out
      rw [toksL_split es k hlt, List.append_assoc] at htk
      have htk2 := Sc.tok_next htk
      rw [List.append_assoc] at htk2
      clear htk
      obtain ⟨j, hj⟩ : ∃ j, j = i + (Sc.toksL (es.take k)).length := ⟨_, rfl⟩
      have HJ := hide hj
      rw [← hj] at hrd htk2
      clear hj
      obtain ⟨x, hx⟩ := es[k].toks_first
      have htk3 := htk2
      rw [hx, List.cons_append] at htk3
      obtain ⟨hi', hk1, -, -, -⟩ := Sc.tok_at htk3
      have hf3 := Sc.El.first_kind (WFL_at HW.out k hlt)
      rw [← hk1] at hf3
      clear hk1 htk3 hx x
      obtain ⟨g', hg1, -, -, hg4, hcap, c0, -, -, -⟩ := (HO.out.fr hfr hgl hne).at j hi'
      cases hg1
      generalize ts[j].kind = kk at c0 hf3
      have hb3 : (kk == 3) = false := beq_eq_false_iff_ne.2 hf3
      have HRD := hide hrd
      obtain ⟨ao, cc, hr1, hra⟩ := hrd
      obtain ⟨rfl, rfl⟩ := hra hi'
      have r0 : wr.cell? ⟨rb, 0, none⟩ = some (.slice (some ⟨g, j * 4, none⟩) (ts.length - j) (cap - j)) := by rw [Lib.cell_of_heap hr1]; rfl
      have hm : 0 < ts.length - j := by omega
      have HTK := hide htk2
      clear hra hr1 htk2 hf3
      have HCK := hide (HC.out es[k] (List.getElem_mem hlt) rb g j ts cap B0 wr _ (HO.out.fr hfr hgl hne) HRD.out hne hn HTK.out)
      have hbr : rb < wr.heap.size := by omega
      go_wp2_with (first
        | (go_at_call 62; refine HCK.out.mono ?_; rintro e w1 ⟨p, ao, n, c, rfl, hE, hR1, hF1⟩; have HE1 := hide hE; have hs1 := hF1.size; have hown1 := ownsRow_fr hown hF1 hrl; clear hE)
        | (at_builtin; refine wpList_append_own_at _ rfl (.tmp 20) (.tmp 23) 72 rfl w.heap.size 85 i0 _ 6 72 Tryd.underlying72 hi hz0 hz1 hz2 rfl (by decide) _ _ _ rfl (World.ownsRow.alloc hown1 _) ⟨w1.heap.size, 0, none⟩ 1 1 (hd es[k].first p (.slice ao n c) es[k].fl) rfl rfl (six_new _ _ _ _ _ _ _ _) (hd_one _ _ _ _ _ _) ?c3 ?c4 ?c5 ?_))
      case c3 => unfold maxLen; omega
      case c4 => omega
      case c5 => simp; omega
      intro v' w2 hown' hgrow _ hat
      have hlr := World.ownsRow.lt hown
      have hblk : ∀ b, b < w1.heap.size → some b ≠ u3.ownBlock → w2.heap[b]? = w1.heap[b]? := fun b hb hbn => (hgrow.block b (by simp; omega) hbn).trans (Lib.alloc_old _ _ _ hb)
      have hnb : ∀ b, b < w1.heap.size → u3.ownBlock ≠ some b → v'.ownBlock ≠ some b := by
        intro b hb hbn
        rcases hat with h | h
        · rw [h]; exact hbn
        · rw [h]; simp; omega
      have hfr2 : Fr w.heap.size rb w w2 := ((hfr.trans (hF1.mono hsz)).alloc (by omega) _).grown hgrow (by simp; omega) (fun q hq => (hlr q hq).1)
      have hEl : ElsAt (fun b => w.heap.size ≤ b ∧ v'.ownBlock ≠ some b) w2 (es.take (k + 1)) (cs ++ hd es[k].first p (.slice ao n c) es[k].fl) := by
        rw [List.take_succ_eq_append_getElem hlt]
        refine ElsAt.snoc (ElsAt.mono (fun b hb hbs => ⟨⟨hb.1, hnb b (by omega) hb.2⟩, (hblk b (by omega) (fun e => hb.2 e.symm)).trans (hF1.block b hbs (by omega))⟩) _ _ HE.out) (ElAt.mono (fun b hb hbs => ?_) _ _ HE1.out)
        have hn3 : u3.ownBlock ≠ some b := fun e => by have := (hlr b e).2; omega
        exact ⟨⟨by omega, hnb b hbs hn3⟩, hblk b hbs (fun e => hn3 e.symm)⟩
      have hR2 := hR1.of (hblk rb (by omega) (fun e => by have := (hlr rb e.symm).1; omega))
      have hlen : i + (Sc.toksL (es.take (k + 1))).length = j + es[k].toks.length := by
        rw [List.take_succ_eq_append_getElem hlt, toksL_app, List.length_append, HJ.out]; simp [Sc.toksL]; omega
      have HEL := hide hEl
      clear hEl hown hown1 hlr hblk hnb hat hgrow hR1
      go_wp2
      go_roundw
      case rel => exact ⟨k + 1, _, by omega, hown', HEL, by rw [hlen]; exact hR2, hfr2⟩
      case measure =>
        rw [hR2.len, HRD.out.len]
        obtain ⟨x, hx⟩ := es[k].toks_first
        rw [hx, List.length_cons]; omega
    · have hk : k = es.length := by omega
      subst hk
      rw [List.take_length] at HE hrd
      have htk2 := Sc.tok_next HT.out
      obtain ⟨j, hj⟩ : ∃ j, j = i + (Sc.toksL es).length := ⟨_, rfl⟩
      have HJ := hide hj
      rw [← hj] at hrd htk2
      clear hj
      have hres : RowV (fun b => w.heap.size ≤ b) wr es.length u3 (ElsAt (fun b => w.heap.size ≤ b) wr es) := by
        have hEl := ElsAt.mono (A' := fun b => w.heap.size ≤ b) (w' := wr) (fun b hb _ => ⟨hb.1, rfl⟩) _ _ HE.out
        rcases hown.2 with ⟨rfl, h0⟩ | ⟨gg, cap', cur, rfl, hB, hgg, q1, q2, q3, q4⟩
        · have : es = [] := List.eq_nil_of_length_eq_zero h0
          subst this
          exact .inl ⟨rfl, rfl, by simp [ElsAt]⟩
        · exact .inr ⟨gg, cap', cur, rfl, hB, hgg, q1, q2, by rw [q3]; exact Nat.mul_le_mul_right _ q1, by rw [q4]; exact hEl⟩
      have HRES := hide hres
      have HRD := hide hrd
      clear hres hown HE
      obtain ⟨ao, cc, hr1, hra⟩ := hrd
      have r0 : wr.cell? ⟨rb, 0, none⟩ = some (.slice ao (ts.length - j) cc) := by rw [Lib.cell_of_heap hr1]; rfl
      cases rest with
      | nil =>
        have hz : ts.length - j = 0 := by
          have := congrArg List.length htk2
          simpa using this
        rw [hz] at r0
        clear hra hr1 htk2 HRS
        go_wp2
        go_ret
        exact ⟨_, rfl, HRES.out, by rw [← HJ.out]; exact HRD.out, hfr⟩
      | cons cl r =>
        have hc3 := HRS.out cl r rfl
        obtain ⟨hi', hk1, -, -, -⟩ := Sc.tok_at htk2
        rw [hc3] at hk1
        obtain ⟨rfl, rfl⟩ := hra hi'
        obtain ⟨g', hg1, -, -, hg4, hcap, c0, -, -, -⟩ := (HO.out.fr hfr hgl hne).at j hi'
        cases hg1
        rw [hk1] at c0
        have hm : 0 < ts.length - j := by omega
        clear hra hr1 htk2 HRS hk1
        go_wp2
        go_ret
        exact ⟨_, rfl, HRES.out, by rw [← HJ.out]; exact HRD.out, hfr⟩
end Go.Proofs.YtoieklacpkahbaaDoor
