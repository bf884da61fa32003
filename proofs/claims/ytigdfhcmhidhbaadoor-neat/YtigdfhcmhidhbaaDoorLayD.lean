/- Walks: the program's elements: their flat lengths. -/
import Derived.Test.YtigdfhcmhidhbaaDoorLayC
import Derived.Test.YtigdfhcmhidhbaaDoorPlainN
import Derived.Test.YtigdfhcmhidhbaaDoorWalkA
import Derived.BigQuiet
import Derived.Deep.QuietTactic
namespace Go.Proofs.YtigdfhcmhidhbaaDoor
open Go.RowKit
namespace Sc
def flGo : List El → Int → Int → Int
  | [], a, add => a + add
  | e :: es, a, add => if e.fl = -1 then -1 else flGo es (a + e.fl) add
theorem El.fl_neg (e : El) : e.fl = -1 ↔ e.com = true := by
  unfold El.fl
  cases e.com with
  | true => simp
  | false => simp
theorem El.fl_pos {e : El} (h : e.com = false) : e.fl = e.flen := by unfold El.fl; rw [h]; rfl
theorem El.fl_ge (e : El) : -1 ≤ e.fl := by
  unfold El.fl; split <;> omega
def sumF : List El → Nat
  | [] => 0
  | e :: es => e.flen + sumF es
theorem flGo_eq : ∀ (es : List El) (a add : Int), flGo es a add = if es.any (·.com) then -1 else a + sumF es + add
  | [], a, add => by simp [flGo, sumF]
  | e :: es, a, add => by
    rw [flGo, flGo_eq es]
    cases h : e.com with
    | true => rw [if_pos ((El.fl_neg e).2 h)]; simp [h]
    | false =>
      rw [if_neg (by rw [El.fl_neg, h]; simp), El.fl_pos h]
      simp only [List.any_cons, h, Bool.false_or, sumF]
      split
      · rfl
      · push_cast; omega
theorem com_pre (t : Tok) (e : El) (h : t.kind ≠ 5) : (El.pre t e).com = e.com := by
  unfold El.com; rw [El.toks, List.any_cons]; simp [h]
theorem comL : ∀ es : List El, (toksL es).any (fun t => t.kind == 5) = es.any (·.com)
  | [] => rfl
  | e :: es => by rw [toksL, List.any_append, comL es, List.any_cons]; rfl
theorem com_lst (o c : Tok) (es : List El) (ho : o.kind ≠ 5) (hc : c.kind ≠ 5) : (El.lst o es c).com = es.any (·.com) := by
  unfold El.com; rw [El.toks, List.any_cons, List.any_append, comL]
  have h1 : (o.kind == 5) = false := beq_eq_false_iff_ne.2 ho
  have h2 : (c.kind == 5) = false := beq_eq_false_iff_ne.2 hc
  rw [h1, Bool.false_or, List.any_cons, h2, List.any_nil, Bool.or_false, Bool.or_false]; rfl
theorem flat_len (e : El) (g : List UInt8) : (render (e.flat g) []).length = g.length + e.flen := by
  obtain ⟨r, h1, h2⟩ := flat_gap e g
  unfold El.flen
  rw [h1, h2, render, render]; simp
theorem flatL_len : ∀ (es : List El) (g : List UInt8), (render (flatL es g) []).length = match es with | [] => 0 | _ :: r => g.length + sumF es + r.length
  | [], _ => rfl
  | e :: es, g => by
    rw [flatL, render_app, render_tl, List.length_append, flat_len, flatL_len es]
    cases es with
    | nil => simp [sumF]
    | cons e' es => simp [sumF]; omega
theorem fl_leaf (t : Tok) (add : Int) (h2 : t.kind ≠ 2) : (El.leaf t).fl = if t.kind = 5 then -1 else flGo [] t.text.length (if t.kind = 2 then add else 0) := by
  unfold El.fl El.com El.flen
  rw [El.toks, El.flat, if_neg h2]
  by_cases h : t.kind = 5 <;> simp [h, flGo, render]
theorem fl_pre (t : Tok) (e : El) (add : Int) (h : t.kind = 4) : (El.pre t e).fl = if t.kind = 5 then -1 else flGo [e] t.text.length (if t.kind = 2 then add else 0) := by
  rw [if_neg (by omega), if_neg (by omega), flGo_eq, El.fl, com_pre t e (by omega)]
  have : (El.pre t e).flen = t.text.length + e.flen := by
    unfold El.flen; rw [El.flat, render]; simp
  rw [this]
  cases h : e.com <;> simp [sumF, h]
theorem fl_lst (o c : Tok) (es : List El) (ho : o.kind = 2) (hc : c.kind = 3) (hct : c.text.length = 1) : (El.lst o es c).fl = if o.kind = 5 then -1 else flGo es o.text.length (if o.kind = 2 then max 1 es.length else 0) := by
  rw [if_neg (by omega), if_pos ho, flGo_eq, El.fl, com_lst o c es (by omega) (by omega)]
  have : (El.lst o es c).flen = o.text.length + (sumF es + max 1 es.length) := by
    unfold El.flen; rw [El.flat, render, render_app, render_tl]
    simp only [List.length_append, render, flatL_len, hct, List.length_nil]
    cases es with
    | nil => simp [sumF]
    | cons e r => simp; omega
  rw [this]
  split
  · rfl
  · push_cast; omega
end Sc

theorem RowV.cells {A : Nat → Prop} {w : World} {v : Value} {ins : List Sc.El} (h : RowV A w ins.length v (ElsAt A w ins)) (k : Nat) (hk : k < ins.length) :
    ∃ g cap p ao n' cap', v = .slice (some ⟨g, 0, none⟩) ins.length cap ∧ A g ∧ g < w.heap.size ∧ ins.length ≤ cap ∧ ElAt A w ins[k] (hd ins[k].first p (.slice ao n' cap') ins[k].fl) ∧
      w.cell? ⟨g, k * 6, none⟩ = some (.int .i64 ins[k].first.kind) ∧ w.cell? ⟨g, k * 6 + 1, none⟩ = some (.string ⟨ins[k].first.text.toArray⟩) ∧ w.cell? ⟨g, k * 6 + 2, none⟩ = some (.int .i64 p) ∧
      w.cell? ⟨g, k * 6 + 3, none⟩ = some (.bool ins[k].first.behind) ∧ w.cell? ⟨g, k * 6 + 4, none⟩ = some (.slice ao n' cap') ∧ w.cell? ⟨g, k * 6 + 5, none⟩ = some (.int .i64 ins[k].fl) := by
  rcases h with ⟨_, h2, _⟩ | ⟨g, cap, cur, h1, h2, h3, h4, h5, h6, h7⟩
  · omega
  · have he := h7.at k hk
    obtain ⟨p, ao, n', cap', hf⟩ := he.form
    have hc : ∀ j, j < 6 → w.cell? ⟨g, k * 6 + j, none⟩ = (hd ins[k].first p (.slice ao n' cap') ins[k].fl)[j]? := by
      intro j hj
      rw [Lib.cell_of_heap h3, ← hf, List.getElem?_take_of_lt hj, List.getElem?_drop, List.getElem?_take_of_lt (by omega), Array.getElem?_toList]
    rw [hf] at he
    exact ⟨g, cap, p, ao, n', cap', h1, h2, (Array.getElem?_eq_some_iff.1 h3).1, h4, he, (hc 0 (by omega)).trans rfl, (hc 1 (by omega)).trans rfl, (hc 2 (by omega)).trans rfl, (hc 3 (by omega)).trans rfl, (hc 4 (by omega)).trans rfl, (hc 5 (by omega)).trans rfl⟩
theorem RowV.one {A : Nat → Prop} {w : World} {v : Value} {e : Sc.El} (h : RowV A w 1 v (ElAt A w e)) : RowV A w [e].length v (ElsAt A w [e]) := by
  refine h.mono (fun k hk _ => ⟨hk, rfl⟩) fun cs hc => ?_
  simp only [ElsAt]
  exact ⟨cs, [], by simp, hc, rfl⟩

set_option maxHeartbeats 1000000 in
theorem is_any (b c d v f : Value) (kk k : Int) (w : World) :
    Calls Tryd.prog 60 #[.agg #[.int .i64 kk, b, c, d, v, f], .int .i64 k] w fun e w' => e = .returned (.bool (kk == k)) ∧ w' = w.alloc (.cells #[.int .i64 kk, b, c, d, v, f] 85) := by
  go_enter Tryd.func60, Tryd.ntmps60
  go_wp2
  go_ret
  exact ⟨rfl, rfl⟩

set_option maxHeartbeats 2000000 in
theorem flatLength_any (t : Sc.Tok) (p f : Int) (v : Value) (ins : List Sc.El) (A : Nat → Prop) (w : World) (h : RowV A w ins.length v (ElsAt A w ins)) (hn : ins.length ≤ 4096) (hf : ∀ e ∈ ins, e.fl ≤ 100000) (ht : t.text.length ≤ 4096) :
    Calls Tryd.prog 80 #[.agg #[.int .i64 t.kind, .string ⟨t.text.toArray⟩, .int .i64 p, .bool t.behind, v, .int .i64 f]] w fun e w' => e = .returned (.int .i64 (if t.kind = 5 then -1 else Sc.flGo ins t.text.length (if t.kind = 2 then max 1 ins.length else 0))) ∧ Below w.heap.size w w' := by
  obtain ⟨ao, cap, rfl, hcap⟩ := h.shape
  have hsz := hide (wbsize t.text)
  rw [← hsz.out] at ht ⊢
  generalize (⟨t.text.toArray⟩ : ByteArray) = tt at *
  generalize t.behind = bb at *
  generalize t.kind = kk at *
  have HF := hide hf; clear hf
  cases k5 : (kk == 5) with
  | true =>
    have hX : kk = 5 := by simpa using k5
    rw [if_pos hX]
    clear hX
    go_enter Tryd.func80, Tryd.ntmps80
    go_wp2_with (go_at_call 60; refine (is_any _ _ _ _ _ _ _ _).mono ?_; rintro e w1 ⟨he, rfl⟩; rw [k5] at he; subst he)
    go_ret
    exact ⟨rfl, ((Below.refl _ _).alloc (Nat.le_refl _) _).alloc (by simp) _⟩
  | false =>
    have hX : ¬ kk = 5 := by simpa using k5
    rw [if_neg hX]
    clear hX
    generalize hR : Sc.flGo ins tt.size (if kk = 2 then max 1 ins.length else 0) = R
    have HR := hide hR
    clear hR
    go_enter Tryd.func80, Tryd.ntmps80
    go_wp2_with (go_at_call 60; refine (is_any _ _ _ _ _ _ _ _).mono ?_; rintro e w1 ⟨he, rfl⟩; rw [k5] at he; subst he)
    go_loopw [3, 15] (fun a i wr => ∃ (k : Nat) (acc : Int), k ≤ ins.length ∧ i = .int .i64 k ∧ a = .int .i64 acc ∧ 0 ≤ acc ∧ acc ≤ 4096 + 100000 * k ∧ Below (w.heap.size + 1) (w.alloc (.cells #[.int .i64 kk, .string tt, .int .i64 p, .bool bb, .slice ao ins.length cap, .int .i64 f] 85)) wr ∧ Hid (R = Sc.flGo (ins.drop k) acc (if kk = 2 then max 1 ins.length else 0))) (fun _ i _ => ins.length - (intOf i).toNat)
    case atStart => exact ⟨0, tt.size, by omega, rfl, rfl, by omega, by omega, (Below.refl _ _).alloc (by simp) _, HR.out.symm⟩
    case round =>
      obtain ⟨k, acc, h1, rfl, rfl, h2, h3, hbel, HK⟩ := hrel
      by_cases hlt : k < ins.length
      · obtain ⟨g, cap', pp, vo, vn, vc, e1, -, hg, -, -, c0, c1, c2, c3, c4, c5⟩ := h.cells k hlt
        injection e1 with e1 e2 e3
        subst e1 e3
        have cc := fun (a : Addr) (ha : a.block < w.heap.size) => (hbel.cell (p := a) (by omega)).trans (((Below.refl w.heap.size w).alloc (Nat.le_refl _) _).cell ha)
        have d0 := (cc ⟨g, k * 6, none⟩ hg).trans c0
        have d1 := (cc ⟨g, k * 6 + 1, none⟩ hg).trans c1
        have d2 := (cc ⟨g, k * 6 + 2, none⟩ hg).trans c2
        have d3 := (cc ⟨g, k * 6 + 3, none⟩ hg).trans c3
        have d4 := (cc ⟨g, k * 6 + 4, none⟩ hg).trans c4
        have d5 := (cc ⟨g, k * 6 + 5, none⟩ hg).trans c5
        clear cc c0 c1 c2 c3 c4 c5
        have hfk := HF.out ins[k] (List.getElem_mem hlt)
        have hfg := Sc.El.fl_ge ins[k]
        have HD := hide (List.drop_eq_getElem_cons hlt)
        obtain ⟨fe, hfe⟩ : ∃ fe, fe = ins[k].fl := ⟨_, rfl⟩
        rw [← hfe] at d5 hfk hfg
        have HE := hide hfe
        generalize ins[k].first.kind = k1 at d0
        generalize (⟨ins[k].first.text.toArray⟩ : ByteArray) = b1 at d1
        generalize ins[k].first.behind = q1 at d3
        clear hfe
        cases hm1 : (fe == -1) with
        | true =>
          have HX : Hid (R = -1) := by
            rw [HK.out, HD.out, Sc.flGo, ← HE.out, if_pos (by simpa using hm1)]; exact hide rfl
          have hfe1 : fe = -1 := by simpa using hm1
          subst hfe1
          clear hm1
          go_wp2
          go_ret
          exact ⟨ret_int HX.out.symm, ((((Below.refl _ _).alloc (Nat.le_refl _) _).trans (hbel.mono (by omega))).alloc (by have := hbel.size; simp at this; omega) _)⟩
        | false =>
          have HX : Hid (R = Sc.flGo (ins.drop (k + 1)) (acc + fe) (if kk = 2 then max 1 ins.length else 0)) := by
            rw [HK.out, HD.out, Sc.flGo, ← HE.out, if_neg (by simpa using hm1)]; exact hide rfl
          have hfe0 : 0 ≤ fe := by have : fe ≠ -1 := by simpa using hm1
                                   omega
          go_wp2
          go_roundw
          case rel => exact ⟨k + 1, acc + fe, by omega, by go_num, by go_num, by omega, by omega, hbel.alloc (by have := hbel.size; simp at this; omega) _, HX⟩
          case measure => simp [intOf]; omega
      · have hk : k = ins.length := by omega
        subst hk
        rw [List.drop_length, Sc.flGo] at HK
        have hsz2 := hbel.size
        have hbe : Below w.heap.size w wr := ((Below.refl _ _).alloc (Nat.le_refl _) _).trans (hbel.mono (by omega))
        have q := fun j => hbel.cell (p := ⟨w.heap.size, j, none⟩) (by show w.heap.size < _; omega)
        have q0 := (q 0).trans (show _ = some (Value.int .i64 kk) by simp)
        have q1 := (q 1).trans (show _ = some (Value.string tt) by simp)
        have q2 := (q 2).trans (show _ = some (Value.int .i64 p) by simp)
        have q3 := (q 3).trans (show _ = some (Value.bool bb) by simp)
        have q4 := (q 4).trans (show _ = some (Value.slice ao ins.length cap) by simp)
        have q5 := (q 5).trans (show _ = some (Value.int .i64 f) by simp)
        have hsz3 : w.heap.size < wr.heap.size := by simp at hsz2; omega
        clear q hbel hsz2
        cases k2 : (kk == 2) with
        | true =>
          have HX : Hid (R = acc + max 1 (ins.length : Int)) := by rw [HK.out, if_pos (by simpa using k2)]; exact hide rfl
          clear HK HR
          go_wp2_with (go_at_call 60; refine (is_any _ _ _ _ _ _ _ _).mono ?_; rintro e w1 ⟨he, rfl⟩; rw [k2] at he; subst he)
          go_ret
          exact ⟨ret_int HX.out.symm, hbe.alloc (by omega) _⟩
        | false =>
          have HX : Hid (R = acc) := by rw [HK.out, if_neg (by simpa using k2)]; exact hide (Int.add_zero _)
          clear HK HR
          go_wp2_with (go_at_call 60; refine (is_any _ _ _ _ _ _ _ _).mono ?_; rintro e w1 ⟨he, rfl⟩; rw [k2] at he; subst he)
          go_ret
          exact ⟨ret_int HX.out.symm, hbe.alloc (by omega) _⟩
end Go.Proofs.YtigdfhcmhidhbaaDoor
