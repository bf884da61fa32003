/- Walks: the program's writer: flat texts. -/
import Derived.Test.YtoieklacpkahbaaDoorLayF
namespace Go.Proofs.YtoieklacpkahbaaDoor
open Go.RowKit
/-- Elements in memory are kept by the writer. -/
def Ne (x : Nat) : Nat → Prop := fun k => k ≠ x
theorem RowV.fw {N x : Nat} {w w' : World} {n : Nat} {v : Value} {Q Q' : List Value → Prop} (h : RowV (Ne x) w n v Q) (hf : Fw N x w w') (hQ : ∀ cs, Q cs → Q' cs) : RowV (Ne x) w' n v Q' := by
  rcases h with ⟨h1, h2, h3⟩ | ⟨g, cap, cur, h1, h2, h3, h4, h5, h6, h7⟩
  · exact .inl ⟨h1, h2, hQ _ h3⟩
  · exact .inr ⟨g, cap, cur, h1, h2, (hf.keep g _ _ _ h2 h3 (by decide)).trans h3, h4, h5, h6, hQ _ h7⟩
mutual
theorem ElAt.fw {N x : Nat} {w w' : World} (hf : Fw N x w w') : ∀ (e : Sc.El) (cs : List Value), ElAt (Ne x) w e cs → ElAt (Ne x) w' e cs
  | .leaf _, _, h => by simpa only [ElAt] using h
  | .pre t e, cs, h => by
    simp only [ElAt] at h ⊢
    obtain ⟨p, v, h1, h2⟩ := h
    exact ⟨p, v, h1, h2.fw hf (fun cs h => ElAt.fw hf e cs h)⟩
  | .lst o es c, cs, h => by
    simp only [ElAt] at h ⊢
    obtain ⟨p, v, h1, h2⟩ := h
    exact ⟨p, v, h1, h2.fw hf (fun cs h => ElsAt.fw hf es cs h)⟩
theorem ElsAt.fw {N x : Nat} {w w' : World} (hf : Fw N x w w') : ∀ (es : List Sc.El) (cs : List Value), ElsAt (Ne x) w es cs → ElsAt (Ne x) w' es cs
  | [], _, h => by simpa only [ElsAt] using h
  | e :: es, cs, h => by
    simp only [ElsAt] at h ⊢
    obtain ⟨c1, c2, h1, h2, h3⟩ := h
    exact ⟨c1, c2, h1, ElAt.fw hf e c1 h2, ElsAt.fw hf es c2 h3⟩
end
theorem SixB.fw {R : Nat} {a b c d e f : Value} {w w' : World} {N x : Nat} (h : SixB R a b c d e f w) (hf : Fw N x w w') (hx : R ≠ x) : SixB R a b c d e f w' := (hf.keep R _ _ _ hx h (by decide)).trans h
/-- The memory in which a writer writes. -/
structure Wk (N x : Nat) (W : Int) (l : List UInt8) (c : Nat) (w : World) : Prop where
  wr : Wr N x W l c w
  n : N ≤ w.heap.size
  x : x < N
theorem Wk.of {N x : Nat} {W : Int} {l : List UInt8} {c : Nat} {w w' : World} (h : Wk N x W l c w) (hb : Below w.heap.size w w') : Wk N x W l c w' := ⟨h.wr.fr hb, Nat.le_trans h.n hb.size, h.x⟩
theorem Wk.new {N x : Nat} {W : Int} {l : List UInt8} {c : Nat} {w : World} (h : Wk N x W l c w) (o : Obj) : Wk N x W l c (w.alloc o) := h.of ((Below.refl _ _).alloc (Nat.le_refl _) _)

theorem wput {N x : Nat} {W : Int} {l : List UInt8} (t : List UInt8) {c : Nat} {w : World} (h : Wk N x W l c w) (hl : l.length + t.length ≤ 100000000000) (hc : c + t.length ≤ 100000000000) :
    Calls Tryd.prog 43 #[.pointer (some ⟨x, 0, none⟩), .string ⟨t.toArray⟩] w fun e w' => e = .returned (.tuple #[]) ∧ Wk N x W (l ++ t) (c + t.length) w' ∧ Fw N x w w' :=
  (put_any N x W l t c w h.wr h.n hl hc).mono fun _ _ ⟨h1, h2, h3⟩ => ⟨h1, ⟨h2, Nat.le_trans h.n h3.fr.size, h.x⟩, h3⟩
theorem wnl {N x : Nat} {W : Int} {l : List UInt8} {c0 : Nat} (c : Nat) {w : World} (h : Wk N x W l c0 w) (hl : l.length + 1 + c ≤ 100000000000) (hc : c ≤ 1000000) :
    Calls Tryd.prog 32 #[.pointer (some ⟨x, 0, none⟩), .int .i64 c] w fun e w' => e = .returned (.tuple #[]) ∧ Wk N x W (l ++ Sc.nl c) c w' ∧ Fw N x w w' :=
  (newLine_any N x W l c0 c w h.wr h.n hl hc).mono fun _ _ ⟨h1, h2, h3⟩ => ⟨h1, ⟨h2, Nat.le_trans h.n h3.fr.size, h.x⟩, h3⟩

namespace Sc
theorem flatL_snoc : ∀ (a : List El) (e : El) (g : List UInt8), flatL (a ++ [e]) g = flatL a g ++ e.flat (if a = [] then g else [32])
  | [], e, g => by simp [flatL]
  | b :: a, e, g => by
    rw [List.cons_append, flatL, flatL_snoc a e, flatL, List.append_assoc, if_neg (List.cons_ne_nil _ _)]
    by_cases h : a = [] <;> simp [h]
/-- The text of k flat elements. -/
def rowS (es : List El) (k : Nat) : List UInt8 := render (flatL (es.take k) []) []
theorem rowS_zero (es : List El) : rowS es 0 = [] := rfl
theorem rowS_succ (es : List El) (k : Nat) (h : k < es.length) : rowS es (k + 1) = rowS es k ++ ((if k = 0 then [] else [32]) ++ render (es[k].flat []) []) := by
  unfold rowS
  rw [List.take_succ_eq_append_getElem h, flatL_snoc, render_app, render_tl]
  obtain ⟨r, h1, h2⟩ := flat_gap es[k] (if es.take k = [] then [] else [32])
  have h3 : (es.take k = []) ↔ k = 0 := by
    constructor
    · intro h4
      have := congrArg List.length h4
      rw [List.length_take, List.length_nil] at this; omega
    · rintro rfl; simp
  rw [h1, h2, render, render]
  simp only [h3, List.nil_append]
theorem rowS_le (es : List El) (k : Nat) : (rowS es k).length ≤ (rowS es es.length).length := by
  by_cases hk : k < es.length
  · have h1 := rowS_le es (k + 1)
    rw [rowS_succ es k hk, List.length_append] at h1
    omega
  · unfold rowS; rw [List.take_of_length_le (by omega), List.take_length]; exact Nat.le_refl _
termination_by es.length - k
end Sc

/-- What the writer does at an element's flat text. -/
def FlatC (e : Sc.El) : Prop := ∀ (N x : Nat) (W : Int) (l : List UInt8) (col : Nat) (w : World) (p : Int) (ao : Option Addr) (n c : Nat), Wk N x W l col w → ElAt (Ne x) w e (hd e.first p (.slice ao n c) e.fl) → l.length + e.flen ≤ 10000000000 → col + e.flen ≤ 10000000000 →
  Calls Tryd.prog 59 #[.pointer (some ⟨x, 0, none⟩), .agg #[.int .i64 e.first.kind, .string ⟨e.first.text.toArray⟩, .int .i64 p, .bool e.first.behind, .slice ao n c, .int .i64 e.fl]] w fun r w' => r = .returned (.tuple #[]) ∧ Wk N x W (l ++ Sc.render (e.flat []) []) (col + e.flen) w' ∧ Fw N x w w'

theorem flen_eq (e : Sc.El) : e.flen = (Sc.render (e.flat []) []).length := rfl

set_option maxRecDepth 100000 in
set_option maxHeartbeats 4000000 in
theorem flat_go (t : Sc.Tok) (ins : List Sc.El) (hC : ∀ e ∈ ins, FlatC e) (N x : Nat) (W : Int) (l : List UInt8) (col : Nat) (w : World) (p f : Int) (ao : Option Addr) (c : Nat) (hk : Wk N x W l col w) (hv : RowV (Ne x) w ins.length (.slice ao ins.length c) (ElsAt (Ne x) w ins))
    (hl : l.length + (t.text.length + (Sc.rowS ins ins.length).length + 1) ≤ 10000000001) (hc : col + (t.text.length + (Sc.rowS ins ins.length).length + 1) ≤ 10000000001) (hin : ins.length ≤ 10000000000) :
    Calls Tryd.prog 59 #[.pointer (some ⟨x, 0, none⟩), .agg #[.int .i64 t.kind, .string ⟨t.text.toArray⟩, .int .i64 p, .bool t.behind, .slice ao ins.length c, .int .i64 f]] w fun r w' => r = .returned (.tuple #[]) ∧
      Wk N x W (l ++ (t.text ++ (Sc.rowS ins ins.length ++ if t.kind = 2 then [41] else []))) (col + (t.text ++ (Sc.rowS ins ins.length ++ if t.kind = 2 then [41] else [])).length) w' ∧ Fw N x w w' := by
  have hx : x < w.heap.size := Nat.lt_of_lt_of_le hk.x hk.n
  have HP := hide (fun w' (h' : Wk N x W l col w') => wput t.text h' (by omega) (by omega))
  obtain ⟨cl, hcl⟩ : ∃ cl, cl = (if t.kind = 2 then [(41 : UInt8)] else []) := ⟨_, rfl⟩
  rw [← hcl]
  have HCL := hide hcl
  have HC := hide hC
  clear hcl
  have HV := hide hv
  have HK := hide hk
  clear hC hv hk
  generalize hbt : (⟨t.text.toArray⟩ : ByteArray) = tt at *
  clear hbt
  generalize t.behind = bb at *
  go_enter Tryd.func59, Tryd.ntmps59
  go_wp2_with (go_at_call 43; refine (HP.out _ (HK.out.new _)).mono ?_; rintro e w1 ⟨rfl, hk1, hf1⟩; have HB1 := hide ((SixB.new w _ _ _ _ _ _).fw hf1 (by omega)); obtain ⟨hl1, c0, c1, c2, c3, c4, c5, -, -, -, -, -, -⟩ := HB1.out.at; have HF1 := hide (((Fw.refl N x w).alloc HK.out.n _).trans hf1); have HK1 := hide hk1; clear hk1 hf1)
  generalize hcx : (Value.agg #[.int .i64 t.kind, .string tt, .int .i64 p, .bool bb, .slice ao ins.length c, .int .i64 f]) = cx
  go_loopw [14] (fun i wr => ∃ k : Nat, k ≤ ins.length ∧ i = .int .i64 k ∧ Hid (Wk N x W (l ++ (t.text ++ Sc.rowS ins k)) (col + (t.text ++ Sc.rowS ins k).length) wr) ∧ Hid (SixB w.heap.size (.int .i64 t.kind) (.string tt) (.int .i64 p) (.bool bb) (.slice ao ins.length c) (.int .i64 f) wr) ∧ Hid (Fw N x w wr)) (fun i _ => ins.length - (intOf i).toNat)
  case atStart => exact ⟨0, by omega, rfl, hide (by rw [Sc.rowS_zero, List.append_nil]; exact HK1.out), HB1, HF1⟩
  case round =>
    obtain ⟨k, h1, rfl, HKR, HBR, HFR⟩ := hrel
    subst hcx
    by_cases hlt : k < ins.length
    · have hvr := HV.out.fw HFR.out (fun cs h => ElsAt.fw HFR.out ins cs h)
      obtain ⟨g, cap', pp, vo, vn, vc, e1, hne, hg, hcp, hE, d0, d1, d2, d3, d4, d5⟩ := hvr.cells k hlt
      injection e1 with e1 e2 e3
      subst e1 e3
      have hrk := Sc.rowS_le ins (k + 1)
      rw [Sc.rowS_succ ins k hlt, List.length_append, List.length_append, ← flen_eq] at hrk
      have HE := hide hE
      clear hvr hE
      have HCK := hide (HC.out ins[k] (List.getElem_mem hlt) N x W)
      have hsz := HFR.out.fr.size
      by_cases h0 : k = 0
      · subst h0
        rw [if_pos rfl, List.length_nil] at hrk
        go_wp2_with (go_at_call 59; refine (HCK.out (l ++ (t.text ++ Sc.rowS ins 0)) _ _ pp vo vn vc (HKR.out.new _) (ElAt.fw (N := N) (Fw.of ((Below.refl _ _).alloc (Nat.le_refl _) _) HKR.out.n) _ _ HE.out) (by simp only [List.length_append]; omega) (by simp only [List.length_append]; omega)).mono ?_; rintro e w2 ⟨rfl, hk2, hf2⟩)
        go_roundw
        case rel =>
          refine ⟨1, by omega, by go_num, hide ?_, hide ((HBR.out.alloc _).fw hf2 (by omega)), hide ((HFR.out.alloc HKR.out.n _).trans hf2)⟩
          have e1 : l ++ (t.text ++ Sc.rowS ins 1) = l ++ (t.text ++ Sc.rowS ins 0) ++ Sc.render (ins[0].flat []) [] := by rw [Sc.rowS_succ ins 0 hlt]; simp
          have e2 : col + (t.text ++ Sc.rowS ins 1).length = col + (t.text ++ Sc.rowS ins 0).length + ins[0].flen := by rw [Sc.rowS_succ ins 0 hlt]; simp [flen_eq]; omega
          rw [e1, e2]
          exact hk2
        case measure => simp [intOf]; omega
      · rw [if_neg h0, List.length_singleton] at hrk
        have hgt : (0 : Int) < k := by omega
        have HP2 := hide (fun w' (h' : Wk N x W (l ++ (t.text ++ Sc.rowS ins k)) (col + (t.text ++ Sc.rowS ins k).length) w') => wput [32] h' (by simp only [List.length_append, List.length_singleton]; omega) (by simp only [List.length_append, List.length_singleton]; omega))
        clear h0
        go_wp2_with (first
          | (go_at_call 43; refine (HP2.out _ (HKR.out.new _)).mono ?_; rintro e w2 ⟨rfl, hk2, hf2⟩; have HF2 := hide ((Fw.refl N x wr).alloc HKR.out.n _ |>.trans hf2); have HK2 := hide hk2; have HB2 := hide ((SixB.new wr _ _ _ _ _ _).fw hf2 (by omega)); obtain ⟨kl, z0, z1, z2, z3, z4, z5, -, -, -, -, -, -⟩ := HB2.out.at; clear hk2 hf2)
          | (go_at_call 59; refine (HCK.out (l ++ (t.text ++ Sc.rowS ins k) ++ [32]) _ _ pp vo vn vc HK2.out (ElAt.fw HF2.out _ _ HE.out) (by simp only [List.length_append, List.length_singleton]; omega) (by simp only [List.length_append, List.length_singleton]; omega)).mono ?_; rintro e w3 ⟨rfl, hk3, hf3⟩))
        go_roundw
        case rel =>
          refine ⟨k + 1, by omega, by go_num, hide ?_, hide ((HBR.out.fw HF2.out (by omega)).fw hf3 (by omega)), hide ((HFR.out.trans HF2.out).trans hf3)⟩
          have e1 : l ++ (t.text ++ Sc.rowS ins (k + 1)) = l ++ (t.text ++ Sc.rowS ins k) ++ [32] ++ Sc.render (ins[k].flat []) [] := by rw [Sc.rowS_succ ins k hlt, if_neg (by omega)]; simp
          have e2 : col + (t.text ++ Sc.rowS ins (k + 1)).length = col + (t.text ++ Sc.rowS ins k).length + [(32 : UInt8)].length + ins[k].flen := by rw [Sc.rowS_succ ins k hlt, if_neg (by omega)]; simp [flen_eq]; omega
          rw [e1, e2]
          exact hk3
        case measure => simp [intOf]; omega
    · have hke : k = ins.length := by omega
      subst hke
      obtain ⟨kl, z0, z1, z2, z3, z4, z5, -, -, -, -, -, -⟩ := HBR.out.at
      have HP2 := hide (fun w' (h' : Wk N x W (l ++ (t.text ++ Sc.rowS ins ins.length)) (col + (t.text ++ Sc.rowS ins ins.length).length) w') => wput [41] h' (by simp only [List.length_append, List.length_singleton]; omega) (by simp only [List.length_append, List.length_singleton]; omega))
      cases k2 : (t.kind == 2) with
      | true =>
        have HI : Hid (cl = [41]) := hide (HCL.out.trans (if_pos (by simpa using k2)))
        clear HCL
        go_wp2_with (first
          | (go_at_call 60; refine (is_any _ _ _ _ _ _ _ _).mono ?_; rintro e w2 ⟨he, rfl⟩; rw [k2] at he; subst he)
          | (go_at_call 43; refine (HP2.out _ (HKR.out.new _)).mono ?_; rintro e w3 ⟨rfl, hk3, hf3⟩))
        go_end0
        rw [HI.out]
        refine ⟨rfl, ?_, (HFR.out.alloc HKR.out.n _).trans hf3⟩
        have e1 : l ++ (t.text ++ (Sc.rowS ins ins.length ++ [41])) = l ++ (t.text ++ Sc.rowS ins ins.length) ++ [41] := by simp
        have e2 : col + (t.text ++ (Sc.rowS ins ins.length ++ [41])).length = col + (t.text ++ Sc.rowS ins ins.length).length + [(41 : UInt8)].length := by simp; omega
        rw [e1, e2]
        exact hk3
      | false =>
        have HI : Hid (cl = []) := hide (HCL.out.trans (if_neg (by simpa using k2)))
        clear HCL
        go_wp2_with (go_at_call 60; refine (is_any _ _ _ _ _ _ _ _).mono ?_; rintro e w2 ⟨he, rfl⟩; rw [k2] at he; subst he)
        go_end0
        rw [HI.out, List.append_nil]
        exact ⟨rfl, HKR.out.new _, HFR.out.alloc HKR.out.n _⟩

theorem hd_v {t t' : Sc.Tok} {p p' f f' : Int} {v v' : Value} (h : hd t p v f = hd t' p' v' f') : v = v' := by
  unfold hd at h
  injection h with _ h; injection h with _ h; injection h with _ h; injection h with _ h; injection h
theorem rowS_all (es : List Sc.El) : Sc.rowS es es.length = Sc.render (Sc.flatL es []) [] := by unfold Sc.rowS; rw [List.take_length]
mutual
/-- The program writes every flat text. -/
theorem flat_any : ∀ (e : Sc.El), e.WF → (∀ t ∈ e.toks, t.kind = 3 → t.text = [41]) → FlatC e
  | .leaf t, hw, _ => by
    intro N x W l col w p ao n c hk hE hl hc
    have hkk : t.kind = 1 ∨ t.kind = 5 := hw
    simp only [ElAt] at hE
    obtain ⟨p', hE⟩ := hE
    have hv : Value.slice ao n c = .slice none 0 0 := hd_v hE
    injection hv with h1 h2 h3
    subst h1 h2 h3
    have hf : (Sc.El.leaf t).flen = t.text.length := by simp [Sc.El.flen, Sc.El.flat, Sc.render]
    rw [hf] at hl hc
    have := flat_go t [] (by simp) N x W l col w p (Sc.El.leaf t).fl none 0 hk (.inl ⟨rfl, rfl, by simp [ElsAt]⟩) (by simp [Sc.rowS, Sc.flatL, Sc.render]; omega) (by simp [Sc.rowS, Sc.flatL, Sc.render]; omega) (by simp)
    rw [if_neg (by omega)] at this
    have e1 : t.text ++ (Sc.rowS [] ([] : List Sc.El).length ++ []) = Sc.render ((Sc.El.leaf t).flat []) [] := by simp [Sc.rowS, Sc.flatL, Sc.render, Sc.El.flat]
    rw [e1] at this
    exact this
  | .pre t e, hw, h3 => by
    intro N x W l col w p ao n c hk hE hl hc
    have hkk : t.kind = 4 := hw.1
    have ih := flat_any e hw.2.2 (fun u hu => h3 u (by simp [Sc.El.toks, hu]))
    simp only [ElAt] at hE
    obtain ⟨p', v, hE, hv⟩ := hE
    have hv' : Value.slice ao n c = v := hd_v hE
    subst hv'
    have hn : n = 1 := by
      rcases hv with ⟨_, h, _⟩ | ⟨g, cap, cur, h, _⟩
      · omega
      · injection h
    subst hn
    have e1 : t.text ++ (Sc.rowS [e] [e].length ++ []) = Sc.render ((Sc.El.pre t e).flat []) [] := by simp [Sc.rowS, Sc.flatL, Sc.render, Sc.El.flat]
    have e2 := congrArg List.length e1
    rw [← flen_eq, List.append_nil, List.length_append] at e2
    have := flat_go t [e] (fun e' he => by obtain rfl : e' = e := by simpa using he
                                           exact ih) N x W l col w p (Sc.El.pre t e).fl ao c hk hv.one (by omega) (by omega) (by simp)
    rw [if_neg (by omega), e1] at this
    exact this
  | .lst o es c, hw, h3 => by
    intro N x W l col w p ao n c' hk hE hl hc
    have hkk : o.kind = 2 := hw.1
    have hct : c.text = [41] := h3 c (by simp [Sc.El.toks]) hw.2.1
    have ih := flats_any es hw.2.2 (fun u hu => h3 u (by simp [Sc.El.toks, hu]))
    simp only [ElAt] at hE
    obtain ⟨p', v, hE, hv⟩ := hE
    have hv' : Value.slice ao n c' = v := hd_v hE
    subst hv'
    have hn : n = es.length := by
      rcases hv with ⟨h, h', _⟩ | ⟨g, cap, cur, h, _⟩
      · injection h with _ h _; omega
      · injection h
    subst hn
    have e1 : o.text ++ (Sc.rowS es es.length ++ [41]) = Sc.render ((Sc.El.lst o es c).flat []) [] := by
      rw [rowS_all, Sc.El.flat, Sc.render, Sc.render_app]; simp [Sc.render, hct]; exact (Sc.render_tl _ _).symm
    have e2 := congrArg List.length e1
    rw [← flen_eq, List.length_append, List.length_append, List.length_singleton] at e2
    have hes : es.length ≤ 10000000000 := by
      have h5 := Sc.flatL_len es []
      rw [← rowS_all] at h5
      cases es with
      | nil => simp
      | cons a r => simp only [List.length_cons] at *; omega
    have := flat_go o es ih N x W l col w p (Sc.El.lst o es c).fl ao c' hk hv (by omega) (by omega) hes
    rw [if_pos hkk, e1] at this
    exact this
theorem flats_any : ∀ (es : List Sc.El), Sc.WFL es → (∀ t ∈ Sc.toksL es, t.kind = 3 → t.text = [41]) → ∀ e ∈ es, FlatC e
  | [], _, _, _, h => absurd h List.not_mem_nil
  | e :: es, hw, h3, e', h => by
    have h1 := flat_any e hw.1 (fun u hu => h3 u (by simp [Sc.toksL, hu]))
    have h2 := flats_any es hw.2 (fun u hu => h3 u (by simp [Sc.toksL, hu]))
    rcases List.mem_cons.1 h with rfl | h
    · exact h1
    · exact h2 e' h
end
end Go.Proofs.YtoieklacpkahbaaDoor
