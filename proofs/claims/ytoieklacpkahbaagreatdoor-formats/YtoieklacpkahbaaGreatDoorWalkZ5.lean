/- Walks: the second layout's broken. -/
import Derived.Test.YtoieklacpkahbaaGreatDoorWalkZ4
namespace Go.Proofs.YtoieklacpkahbaaGreatDoor
open Go.RowKit
structure SzR (e : Sc.El) (s : List UInt8) (tail : Nat) : Prop where
  col : Sc.colB 0 s + 2 * Sc.wt e.toks ≤ 100001
  len : s.length + 300000 * e.toks.length ≤ 10000200000
  tail : tail + e.toks.length ≤ 20000
/-- What the second layout does at an element. -/
def ElemR (W : Nat) (e : Sc.El) : Prop := ∀ (ao : Option Addr) (cap : Nat) (ts : List Sc.Tok) (B0 : Nat) (w : World) (i : Nat) (rest : List Sc.Tok) (s : List UInt8) (tail : Nat), Owns w B0 (.slice ao ts.length cap) ts → ts.length ≤ 4096 → (∀ t ∈ ts, t.text.length ≤ 4096) → (ts.drop i).map Sc.erase = e.toks ++ rest → SzR e s tail →
  Calls Tryz.prog 28 #[.agg #[.slice ao ts.length cap, .int .i64 W], .string ⟨s.toArray⟩, .int .i64 i, .int .i64 tail] w fun r w' => r = .returned (.string ⟨(s ++ RL W e (Sc.colB 0 s) tail).toArray⟩) ∧ Below w.heap.size w w'

theorem toksL_last {es : List Sc.El} {e : Sc.El} (h : es.getLast? = some e) : ∃ r, Sc.toksL es = r ++ [e.last] := by
  have hne : es ≠ [] := by intro h'; rw [h'] at h; simp at h
  have h1 : es = es.dropLast ++ [e] := by
    rw [List.getLast?_eq_some_getLast hne] at h
    injection h with h
    rw [← h]; exact (List.dropLast_concat_getLast hne).symm
  obtain ⟨r, hr⟩ := e.toks_last
  exact ⟨Sc.toksL es.dropLast ++ r, by rw [h1, toksL_app]; simp [Sc.toksL, hr]⟩
theorem last5 {e : Sc.El} (hw : e.WF) : (e.last.kind == 5) = e.isC := by
  cases h : e.isC with
  | true =>
    obtain ⟨t, rfl, h5⟩ := Sc.El.isC_leaf h
    simp [Sc.El.last, h5]
  | false => exact beq_eq_false_iff_ne.2 (Sc.El.last_no5 e hw h)
/-- The token ahead of the bracket that closes. -/
theorem ahead {o cl : Sc.Tok} {es : List Sc.El} {ts : List Sc.Tok} {i : Nat} {rest : List Sc.Tok} (ho : o.kind = 2) (hw : Sc.WFL es) (hi : i < ts.length) (hio : ts[i].kind = o.kind) (hd : (ts.drop (i + 1)).map Sc.erase = Sc.toksL es ++ cl :: rest) (c : Nat) :
    ∃ h : i + (Sc.toksL es).length < ts.length, Sc.closeGap es c = if (ts[i + (Sc.toksL es).length].kind == 5) then Sc.nl c else [] := by
  cases hl : es.getLast? with
  | none =>
    have : es = [] := List.getLast?_eq_none_iff.1 hl
    subst this
    refine ⟨by simpa [Sc.toksL] using hi, ?_⟩
    simp only [Sc.toksL, List.length_nil, Nat.add_zero, hio, ho]
    rfl
  | some e =>
    obtain ⟨r, hr⟩ := toksL_last hl
    have hwe : e.WF := WFL_mem (List.mem_of_getLast? hl) hw
    rw [hr, List.append_assoc, List.singleton_append] at hd
    have hd2 := Sc.tok_next hd
    obtain ⟨h1, h2, -, -, -⟩ := Sc.tok_at hd2
    have hlen : i + (Sc.toksL es).length = i + 1 + r.length := by rw [hr, List.length_append, List.length_singleton]; omega
    refine ⟨by omega, ?_⟩
    have h3 : ts[i + (Sc.toksL es).length]'(by omega) = ts[i + 1 + r.length] := by congr 1
    rw [h3, h2, last5 hwe]
    unfold Sc.closeGap
    rw [hl]
theorem WFL_drop : ∀ {es : List Sc.El}, Sc.WFL es → ∀ k, Sc.WFL (es.drop k)
  | [], _, _ => by simp [Sc.WFL]
  | e :: es, h, k => by
    cases k with
    | zero => exact h
    | succ k => exact WFL_drop h.2 k
set_option maxRecDepth 100000 in
set_option maxHeartbeats 40000000 in
theorem rbroken_any (W : Nat) (_ : W ≤ 200) (o cl : Sc.Tok) (es : List Sc.El) (hw : (Sc.El.lst o es cl).WF) (hT : TW (Sc.El.lst o es cl).toks) (hC : ∀ e ∈ es, ElemR W e) (ao : Option Addr) (cap : Nat) (ts : List Sc.Tok) (B0 : Nat) (w : World) (i : Nat) (rest : List Sc.Tok) (s : List UInt8) (tail : Nat) (h : Owns w B0 (.slice ao ts.length cap) ts) (hn : ts.length ≤ 4096) (hts : ∀ t ∈ ts, t.text.length ≤ 4096)
    (hd : (ts.drop i).map Sc.erase = (Sc.El.lst o es cl).toks ++ rest) (hs : SzR (.lst o es cl) s tail) :
    Calls Tryz.prog 63 #[.agg #[.slice ao ts.length cap, .int .i64 W], .string ⟨s.toArray⟩, .int .i64 i, .int .i64 tail] w fun r w' => r = .returned (.string ⟨(s ++ Sc.brk W o es (Sc.colB 0 s) (Sc.colB 0 s + (Sc.style o es).1) (Sc.style o es).2 tail).toArray⟩) ∧ Below w.heap.size w w' := by
  have HOW := hide (fun W1 (hW : Below w.heap.size w W1) => h.below hW)
  have HST := hide (fun W1 (hW1 : Owns W1 B0 (.slice ao ts.length cap) ts) => rstyle_any o cl es hw ao cap ts B0 W1 W i rest hW1 hn hts hd)
  have HCO := hide (fun W1 => column_any s W1 (by have := hs.len; omega))
  obtain ⟨hw1, hw2, hw3⟩ : o.kind = 2 ∧ cl.kind = 3 ∧ Sc.WFL es := hw
  have hd1 := hd
  rw [Sc.El.toks, List.cons_append, List.append_assoc, List.singleton_append] at hd1
  obtain ⟨hi, q1, q2, -, hd2⟩ := Sc.tok_at hd1
  obtain ⟨g, hg1, -, -, hg4, hcap, -, c1, -, -⟩ := h.at i hi
  subst hg1
  rw [q2] at c1
  have hz := bsize s
  have hz2 := bsize o.text
  have hq : (⟨s.toArray⟩ : ByteArray) ++ ⟨o.text.toArray⟩ = ⟨(s ++ o.text).toArray⟩ := bapp s o.text
  have ho := hT o (by simp [Sc.El.toks])
  have hol := ho.2.2.1
  have hcl := (hT cl (by simp [Sc.El.toks])).2.2.2.1 hw2
  have hTe : TW (Sc.toksL es) := fun t ht => hT t (by simp [Sc.El.toks, ht])
  have hwt : Sc.wt (Sc.El.lst o es cl).toks = o.text.length + 1 + (Sc.wt (Sc.toksL es) + 2) := by
    rw [Sc.El.toks, Sc.wt, Sc.wt_app]; simp [Sc.wt, hcl]
  have htl : (Sc.El.lst o es cl).toks.length = (Sc.toksL es).length + 2 := by simp [Sc.El.toks]
  obtain ⟨hs1, hs2, hs3⟩ := hs
  rw [hwt] at hs1
  rw [htl] at hs2 hs3
  have hsl := Sc.style_le o es ho.2.1
  have hle : (Sc.toksL es).length + 2 ≤ ts.length := by
    have := congrArg List.length hd
    rw [List.length_map, List.length_drop, List.length_append, htl] at this
    omega
  obtain ⟨fu, hfu⟩ : ∃ fu, fu = (Sc.style o es).1 := ⟨_, rfl⟩
  obtain ⟨bs, hbs⟩ : ∃ bs, bs = (Sc.style o es).2 := ⟨_, rfl⟩
  rw [← hfu, ← hbs] at HST ⊢
  rw [← hfu] at hsl
  have hfl : fu ≤ 9000 := by
    rcases hsl with h2 | ⟨f, r, h2, h3⟩
    · omega
    · have := (hTe f (by rw [h2]; simp [Sc.toksL, Sc.El.toks])).2.2.1
      omega
  generalize hfv : Sc.colB 0 s = cb at *
  have hcf : cb + fu ≤ 100000 := by
    rcases hsl with h2 | ⟨f, r, h2, h3⟩
    · omega
    · have h4 : Sc.wt (Sc.toksL es) = Sc.wt (Sc.El.leaf f).toks + Sc.wt (Sc.toksL r) := by rw [h2, Sc.toksL, Sc.wt_app]
      simp [Sc.El.toks, Sc.wt] at h4
      omega
  have hX2 : ∀ e r, es = e :: r → cb + fu ≤ cb + o.text.length + 2 * Sc.wt e.toks := by
    intro e r he
    have hp := Sc.wt_pos e
    rcases hsl with h2 | ⟨f, r', h2, h3⟩
    · omega
    · rw [he] at h2
      injection h2 with h2 _
      subst h2
      simp [Sc.El.toks, Sc.wt]; omega
  have hco : Sc.colB 0 (s ++ o.text) = cb + o.text.length := by rw [Sc.colB_app, hfv, Sc.colB_no10 _ _ ho.1]
  obtain ⟨T, hTT⟩ : ∃ T, T = Sc.render (Sc.layL W es 0 (cb + o.text.length) (cb + fu) bs (tail + 1)) [] := ⟨_, rfl⟩
  obtain ⟨R, hR⟩ : ∃ R, R = s ++ Sc.brk W o es cb (cb + fu) bs tail := ⟨_, rfl⟩
  have hRT : R = s ++ o.text ++ T ++ (Sc.closeGap es (cb + fu) ++ [41]) := by
    rw [hR]; unfold Sc.brk; rw [← hTT]; simp
  rw [← hR]
  have HRT := hide hRT
  have HTT := hide hTT
  have HCC := hide hC
  have HTE := hide hTe
  have HWF := hide hw3
  have HX2 := hide hX2
  have HCO2 := hide hco
  have HD := hide hd2
  have HAH := hide (ahead (cl := cl) (rest := rest) hw1 hw3 hi q1 hd2 (cb + fu))
  have HOA := hide (HOW.out w (Below.refl _ _))
  have hwk : ((cb : Int) + fu) ≤ 200000 := by omega
  have hcw : ((cb + fu : Nat) : Int) = (cb : Int) + fu := by omega
  clear hC hT hTe hwt htl hd hd1 hd2 hRT hTT hR hfu hbs hsl hX2 hco hfv h ho q2 q1 hw3
  go_enter Tryz.func63, Tryz.ntmps63
  go_wp2_with (first
    | (go_at_call 99; refine (HST.out _ (HOW.out _ ((Below.refl _ _).alloc (Nat.le_refl _) _))).mono ?_; rintro e w1 ⟨rfl, hb1⟩; obtain ⟨hb, hsz, b0, b1⟩ := boxed hb1; have cc1 := (hb.cell hg4).trans c1; clear hb1)
    | (go_at_call 62; refine (HCO.out _).mono ?_; rintro e w2 ⟨rfl, rfl⟩))
  go_loopw [1, 12, 13] (fun a k nn wr => ∃ (n : Nat) (sn : List UInt8) (Xn : Nat), n ≤ es.length ∧ nn = .int .i64 n ∧ k = .int .i64 (i + 1 + (Sc.toksL (es.take n)).length : Nat) ∧ a = .string ⟨sn.toArray⟩ ∧ Below w.heap.size w wr ∧ w.heap.size < wr.heap.size ∧ wr.cell? ⟨w.heap.size, 0, none⟩ = some (.slice (some ⟨g, 0, none⟩) ts.length cap) ∧ wr.cell? ⟨w.heap.size, 1, none⟩ = some (.int .i64 W) ∧
    Sc.colB 0 sn ≤ Xn ∧ (n = 0 → Xn = cb + o.text.length) ∧ (0 < n → cb + fu ≤ Xn) ∧ Xn + 2 * Sc.wt (Sc.toksL (es.drop n)) ≤ 100000 ∧ sn.length + 300000 * (Sc.toksL (es.drop n)).length ≤ 10000000000 ∧ Hid (sn ++ Sc.render (Sc.layL W (es.drop n) n (Sc.colB 0 sn) (cb + fu) bs (tail + 1)) [] = s ++ o.text ++ T)) (fun _ _ nn _ => es.length - (intOf nn).toNat)
  case atStart =>
    refine ⟨0, s ++ o.text, cb + o.text.length, by omega, rfl, by simp [Sc.toksL], rfl, hb, hsz, b0, b1, by rw [HCO2.out]; omega, fun _ => rfl, fun h => by omega, by rw [List.drop_zero]; omega, by rw [List.drop_zero, List.length_append]; omega, hide (by rw [List.drop_zero, HCO2.out, HTT.out])⟩
  case round =>
    obtain ⟨n, sn, Xn, h1, rfl, rfl, rfl, hbel, hsz2, z0, z1, hb1', hb0, hb2, hb3, hb4, HEQ⟩ := hrel
    have HOR := hide (HOW.out wr hbel)
    have hz3 := bsize sn
    have hel : es.length ≤ 20000 := by have := toksL_len es; omega
    clear hq hz hz2 c1 cc1
    obtain ⟨kn, hkn⟩ : ∃ kn, kn = i + 1 + (Sc.toksL (es.take n)).length := ⟨_, rfl⟩
    rw [← hkn]
    have HKN := hide hkn
    by_cases hlt : n < es.length
    · have hmem : es[n] ∈ es := List.getElem_mem hlt
      have hTe := TW.mem hmem HTE.out
      have hwe := WFL_mem hmem HWF.out
      have hdn := HD.out
      rw [toksL_split es n hlt, List.append_assoc] at hdn
      have hdk := Sc.tok_next hdn
      rw [List.append_assoc] at hdk
      rw [show i + 1 + (Sc.toksL (es.take n)).length = kn from hkn.symm] at hdk
      have hdk2 := Sc.tok_next hdk
      have hkle : kn + es[n].toks.length ≤ ts.length := by
        have := congrArg List.length hdk
        rw [List.length_map, List.length_drop, List.length_append] at this
        have hp : 0 < es[n].toks.length := by obtain ⟨y, hy⟩ := es[n].toks_first; rw [hy]; simp
        omega
      obtain ⟨y, hy⟩ := es[n].toks_first
      have hdk3 := hdk
      rw [hy, List.cons_append] at hdk3
      obtain ⟨hki, hk1, -, -, -⟩ := Sc.tok_at hdk3
      have hf3 := Sc.El.first_kind hwe
      rw [← hk1] at hf3
      obtain ⟨g', hg1, -, -, hg5, -, d0, -, -, -⟩ := HOR.out.at kn hki
      cases hg1
      have hk3 : (ts[kn].kind == 3) = false := beq_eq_false_iff_ne.2 hf3
      generalize ts[kn].kind = kk at d0 hk3
      have HBH := hide (fun W1 (hW : Owns W1 B0 (.slice (some ⟨g, 0, none⟩) ts.length cap) ts) => rbehind_any (some ⟨g, 0, none⟩) cap ts B0 W1 W kn hW)
      rw [Sc.isBt_cons hwe hdk] at HBH
      have HEN := hide (fun W1 (hW : Owns W1 B0 (.slice (some ⟨g, 0, none⟩) ts.length cap) ts) => rend_any es[n] hwe (some ⟨g, 0, none⟩) cap ts B0 W1 kn _ hW hn hdk)
      have HTL := hide (fun W1 (hW : Owns W1 B0 (.slice (some ⟨g, 0, none⟩) ts.length cap) ts) => rtail_any (some ⟨g, 0, none⟩) cap ts B0 W1 W (kn + es[n].toks.length) (tail + 1 : Nat) hW hts)
      rw [Sc.tailT_eq (es := es.drop (n + 1)) (rest := cl :: rest) (tail + 1) (WFL_drop HWF.out (n + 1)) (fun t r he => by cases he; exact hw2) hdk2] at HTL
      have HEL := hide (fun W1 (s' : List UInt8) (tl : Nat) (hW : Owns W1 B0 (.slice (some ⟨g, 0, none⟩) ts.length cap) ts) (hz : SzR es[n] s' tl) => HCC.out es[n] hmem (some ⟨g, 0, none⟩) cap ts B0 W1 kn _ s' tl hW hn hts hdk hz)
      have hdr : Sc.toksL (es.drop n) = es[n].toks ++ Sc.toksL (es.drop (n + 1)) := by rw [List.drop_eq_getElem_cons hlt, Sc.toksL]
      have hwt : Sc.wt (Sc.toksL (es.drop n)) = Sc.wt es[n].toks + Sc.wt (Sc.toksL (es.drop (n + 1))) := by rw [hdr, Sc.wt_app]
      have hle2 : (Sc.toksL (es.drop n)).length = es[n].toks.length + (Sc.toksL (es.drop (n + 1))).length := by rw [hdr, List.length_append]
      have hwl : (Sc.toksL (es.drop n)).length ≤ (Sc.toksL es).length := by
        have : Sc.toksL es = Sc.toksL (es.take n) ++ Sc.toksL (es.drop n) := by rw [← toksL_app, List.take_append_drop]
        rw [this, List.length_append]; omega
      have htle : Sc.tailOf (es.drop (n + 1)) (tail + 1) + es[n].toks.length ≤ 20000 := by
        cases hd1 : es.drop (n + 1) with
        | nil => simp only [Sc.tailOf]; omega
        | cons e' r =>
          have he' : e' ∈ es := List.mem_of_mem_drop (by rw [hd1]; exact List.mem_cons_self ..)
          have := (TW.mem he' HTE.out).first.2.2.1
          simp only [Sc.tailOf]
          split <;> omega
      obtain ⟨tl, htl⟩ : ∃ tl, tl = Sc.tailOf (es.drop (n + 1)) (tail + 1) := ⟨_, rfl⟩
      have HRE := hide (row_eq W es n hlt (Sc.colB 0 sn) (cb + fu) (tail + 1) bs sn)
      rw [← htl] at HTL HRE htle
      have hkn2 : i + 1 + (Sc.toksL (es.take (n + 1))).length = kn + es[n].toks.length := by
        rw [List.take_succ_eq_append_getElem hlt, toksL_app, List.length_append, hkn]; simp [Sc.toksL]; omega
      have HSTEP : Hid (∀ G, Sc.gapOf es[n] n (cb + fu) bs = G → G.length ≤ 100001 → Sc.colB (Sc.colB 0 sn) G ≤ Xn + 1 → SzR es[n] (sn ++ G) tl ∧ ∀ wz, Below w.heap.size w wz → w.heap.size < wz.heap.size → wz.cell? ⟨w.heap.size, 0, none⟩ = some (.slice (some ⟨g, 0, none⟩) ts.length cap) → wz.cell? ⟨w.heap.size, 1, none⟩ = some (.int .i64 W) →
          ∃ (n' : Nat) (sn' : List UInt8) (Xn : Nat), n' ≤ es.length ∧ Value.int .i64 ((n : Int) + 1) = .int .i64 n' ∧ Value.int .i64 ((kn : Int) + (es[n].toks.length : Int)) = .int .i64 (i + 1 + (Sc.toksL (es.take n')).length : Nat) ∧ Value.string ⟨(sn ++ G ++ RL W es[n] (Sc.colB 0 (sn ++ G)) tl).toArray⟩ = .string ⟨sn'.toArray⟩ ∧ Below w.heap.size w wz ∧ w.heap.size < wz.heap.size ∧ wz.cell? ⟨w.heap.size, 0, none⟩ = some (.slice (some ⟨g, 0, none⟩) ts.length cap) ∧ wz.cell? ⟨w.heap.size, 1, none⟩ = some (.int .i64 W) ∧
            Sc.colB 0 sn' ≤ Xn ∧ (n' = 0 → Xn = cb + o.text.length) ∧ (0 < n' → cb + fu ≤ Xn) ∧ Xn + 2 * Sc.wt (Sc.toksL (es.drop n')) ≤ 100000 ∧ sn'.length + 300000 * (Sc.toksL (es.drop n')).length ≤ 10000000000 ∧ Hid (sn' ++ Sc.render (Sc.layL W (es.drop n') n' (Sc.colB 0 sn') (cb + fu) bs (tail + 1)) [] = s ++ o.text ++ T)) := by
        refine hide (fun G hG hGl hGc => ?_)
        obtain ⟨p1, p2⟩ := row_cap W es[n] hTe (Sc.colB 0 sn) G tl hGl (by omega)
        rw [List.length_append] at p2
        have hpos : 0 < es[n].toks.length := by rw [hy]; simp
        rw [Sc.colB_app 0 sn G]
        refine ⟨⟨by rw [Sc.colB_app]; omega, by rw [List.length_append]; omega, htle⟩, fun wz q1 q2 q3 q4 => ⟨n + 1, _, Xn + 2 * Sc.wt es[n].toks, by omega, by simp, by rw [hkn2]; simp, rfl, q1, q2, q3, q4, ?_, by omega, fun _ => ?_, by omega, by simp only [List.length_append]; omega, hide ?_⟩⟩
        · rw [Sc.colB_app, Sc.colB_app]; omega
        · by_cases h0 : n = 0
          · subst h0
            have := HX2.out es[0] (es.drop 1) (by rw [← List.drop_eq_getElem_cons hlt, List.drop_zero])
            have := hb0 rfl
            omega
          · have := hb2 (by omega)
            omega
        · obtain ⟨r1, _⟩ := HRE.out G hG
          rw [Sc.colB_app 0 (sn ++ G), Sc.colB_app 0 sn G, ← r1]
          exact HEQ.out
      have hct : ((tail + 1 : Nat) : Int) = (tail : Int) + 1 := by omega
      rw [hct] at HTL
      have hwr := hide (wrap_small ((tail : Int) + 1) (by omega) (by omega))
      clear hct
      clear hdr HRE hwt hle2 hwl hTe hb0 htl hdk hdk2 hdk3 hdn hk1 hf3 hy y hkn2 hwe hmem hkn
      by_cases h0 : n = 0
      · have hkb : ((n : Int) == 0) = true := beq_iff_eq.2 (by omega)
        obtain ⟨hS, hZ⟩ := HSTEP.out [] (by unfold Sc.gapOf; rw [if_pos h0]) (by simp) (by rw [Sc.colB_nil]; omega)
        rw [List.append_nil] at hS hZ
        have HZ := hide hZ
        have HE2 := hide (fun W1 hW => HEL.out W1 sn tl hW hS)
        clear hS hZ HSTEP h0
        generalize es[n].isB = ib at HBH
        clear hcl hw1 hw2 hts hcw hle hs1 hs2 hol
        go_wp2_with (first
          | (go_at_call 25; refine (HBH.out _ HOR.out).mono ?_; rintro e w2 ⟨rfl, hb8⟩; have HB8 := hide (hbel.trans (hb8.mono hbel.size)); have y0 := (hb8.cell (p := ⟨w.heap.size, 0, none⟩) hsz2).trans z0; have y1 := (hb8.cell (p := ⟨w.heap.size, 1, none⟩) hsz2).trans z1; have hsz3 : w.heap.size < w2.heap.size := Nat.lt_of_lt_of_le hsz2 hb8.size; have HOR2 := hide (HOR.out.below hb8); clear hb8)
          | (go_at_call 27; refine (HEN.out _ HOR2.out).mono ?_; rintro e w3 ⟨rfl, hw3⟩; subst w3))
        go_region_with (first
          | (go_at_call 29; rw [hwr.out]; refine (HTL.out _ (HOR2.out.below (Below.drew (Below.refl _ _)))).mono ?_; rintro e1 w3 ⟨rfl, hb9⟩; have HB9 := hide hb9; have x0 := (hb9.cell (p := ⟨w.heap.size, 0, none⟩) hsz3).trans y0; have x1 := (hb9.cell (p := ⟨w.heap.size, 1, none⟩) hsz3).trans y1; have hsz4 : w.heap.size < w3.heap.size := Nat.lt_of_lt_of_le hsz3 hb9.size; have HOR3 := hide ((HOR2.out.below (Below.drew (Below.refl _ _))).below hb9); clear hb9)
          | (go_at_call 28; refine (HE2.out _ HOR3.out).mono ?_; rintro e1 w4 ⟨rfl, hb10⟩; have HB10 := hide hb10; clear hb10))
        all_goals
          go_wp2
          go_roundw
          case rel => exact HZ.out w4 (HB8.out.trans ((((Below.drew (Below.refl _ w2)).trans HB9.out).trans (HB10.out.mono HB9.out.size)).mono (Nat.le_of_lt hsz3))) (Nat.lt_of_lt_of_le hsz4 HB10.out.size) ((HB10.out.cell (p := ⟨w.heap.size, 0, none⟩) hsz4).trans x0) ((HB10.out.cell (p := ⟨w.heap.size, 1, none⟩) hsz4).trans x1)
          case measure => simp [intOf]; omega
      · have hkb : ((n : Int) == 0) = false := beq_eq_false_iff_ne.2 (by omega)
        have hgen : Sc.gapOf es[n] n (cb + fu) bs = if es[n].isB || (n == 1 && bs) then [32] else Sc.nl (cb + fu) := by unfold Sc.gapOf; rw [if_neg h0]
        have hcX := hb2 (by omega)
        cases hib : es[n].isB with
        | true =>
          rw [hib] at HBH
          obtain ⟨hS, hZ⟩ := HSTEP.out [32] (by rw [hgen, hib, Bool.true_or, if_pos rfl]) (by simp) (by rw [colB_one]; omega)
          have HZ := hide hZ
          have HE2 := hide (fun W1 hW => HEL.out W1 (sn ++ [32]) tl hW hS)
          have hq32 : (⟨sn.toArray⟩ : ByteArray) ++ ⟨#[32]⟩ = ⟨(sn ++ [32]).toArray⟩ := bapp1 sn 32
          have hb4' : sn.length ≤ 10000000000 := by omega
          clear hS hZ HSTEP h0 hgen hib
          clear hcl hw1 hw2 hts hcw hle hs1 hs2 hol
          generalize (⟨(sn ++ [32] ++ RL W es[n] (Sc.colB 0 (sn ++ [32])) tl).toArray⟩ : ByteArray) = rx at HE2 HZ
          generalize (⟨(sn ++ [32]).toArray⟩ : ByteArray) = sx at hq32 HE2
          go_wp2_with (first
            | (go_at_call 25; refine (HBH.out _ HOR.out).mono ?_; rintro e w2 ⟨rfl, hb8⟩; have HB8 := hide (hbel.trans (hb8.mono hbel.size)); have y0 := (hb8.cell (p := ⟨w.heap.size, 0, none⟩) hsz2).trans z0; have y1 := (hb8.cell (p := ⟨w.heap.size, 1, none⟩) hsz2).trans z1; have hsz3 : w.heap.size < w2.heap.size := Nat.lt_of_lt_of_le hsz2 hb8.size; have HOR2 := hide (HOR.out.below hb8); clear hb8)
            | (go_at_call 27; refine (HEN.out _ HOR2.out).mono ?_; rintro e w3 ⟨rfl, hw3⟩; subst w3))
          go_region_with (first
            | (go_at_call 29; rw [hwr.out]; refine (HTL.out _ (HOR2.out.below (Below.drew (Below.refl _ _)))).mono ?_; rintro e1 w3 ⟨rfl, hb9⟩; have HB9 := hide hb9; have x0 := (hb9.cell (p := ⟨w.heap.size, 0, none⟩) hsz3).trans y0; have x1 := (hb9.cell (p := ⟨w.heap.size, 1, none⟩) hsz3).trans y1; have hsz4 : w.heap.size < w3.heap.size := Nat.lt_of_lt_of_le hsz3 hb9.size; have HOR3 := hide ((HOR2.out.below (Below.drew (Below.refl _ _))).below hb9); clear hb9)
            | (go_at_call 28; refine (HE2.out _ HOR3.out).mono ?_; rintro e1 w4 ⟨rfl, hb10⟩; have HB10 := hide hb10; clear hb10))
          all_goals
            go_wp2
            go_roundw
            case rel => exact HZ.out w4 (HB8.out.trans ((((Below.drew (Below.refl _ w2)).trans HB9.out).trans (HB10.out.mono HB9.out.size)).mono (Nat.le_of_lt hsz3))) (Nat.lt_of_lt_of_le hsz4 HB10.out.size) ((HB10.out.cell (p := ⟨w.heap.size, 0, none⟩) hsz4).trans x0) ((HB10.out.cell (p := ⟨w.heap.size, 1, none⟩) hsz4).trans x1)
            case measure => simp [intOf]; omega
        | false =>
          rw [hib] at HBH
          cases h12 : (n == 1 && bs) with
          | true =>
            have hn1 : ((n : Int) == 1) = true := by
              have : n = 1 := by simp at h12; exact h12.1
              exact beq_iff_eq.2 (by omega)
            have hbs1 : bs = true := by simp at h12; exact h12.2
            subst hbs1
            obtain ⟨hS, hZ⟩ := HSTEP.out [32] (by rw [hgen, h12, Bool.or_true, if_pos rfl]) (by simp) (by rw [colB_one]; omega)
            have HZ := hide hZ
            have HE2 := hide (fun W1 hW => HEL.out W1 (sn ++ [32]) tl hW hS)
            have hq32 : (⟨sn.toArray⟩ : ByteArray) ++ ⟨#[32]⟩ = ⟨(sn ++ [32]).toArray⟩ := bapp1 sn 32
            have hb4' : sn.length ≤ 10000000000 := by omega
            clear hS hZ HSTEP h0 hgen hib h12
            clear hcl hw1 hw2 hts hcw hle hs1 hs2 hol
            generalize (⟨(sn ++ [32] ++ RL W es[n] (Sc.colB 0 (sn ++ [32])) tl).toArray⟩ : ByteArray) = rx at HE2 HZ
            generalize (⟨(sn ++ [32]).toArray⟩ : ByteArray) = sx at hq32 HE2
            go_wp2_with (first
              | (go_at_call 25; refine (HBH.out _ HOR.out).mono ?_; rintro e w2 ⟨rfl, hb8⟩; have HB8 := hide (hbel.trans (hb8.mono hbel.size)); have y0 := (hb8.cell (p := ⟨w.heap.size, 0, none⟩) hsz2).trans z0; have y1 := (hb8.cell (p := ⟨w.heap.size, 1, none⟩) hsz2).trans z1; have hsz3 : w.heap.size < w2.heap.size := Nat.lt_of_lt_of_le hsz2 hb8.size; have HOR2 := hide (HOR.out.below hb8); clear hb8)
              | (go_at_call 27; refine (HEN.out _ HOR2.out).mono ?_; rintro e w3 ⟨rfl, hw3⟩; subst w3))
            go_region_with (first
              | (go_at_call 29; rw [hwr.out]; refine (HTL.out _ (HOR2.out.below (Below.drew (Below.refl _ _)))).mono ?_; rintro e1 w3 ⟨rfl, hb9⟩; have HB9 := hide hb9; have x0 := (hb9.cell (p := ⟨w.heap.size, 0, none⟩) hsz3).trans y0; have x1 := (hb9.cell (p := ⟨w.heap.size, 1, none⟩) hsz3).trans y1; have hsz4 : w.heap.size < w3.heap.size := Nat.lt_of_lt_of_le hsz3 hb9.size; have HOR3 := hide ((HOR2.out.below (Below.drew (Below.refl _ _))).below hb9); clear hb9)
              | (go_at_call 28; refine (HE2.out _ HOR3.out).mono ?_; rintro e1 w4 ⟨rfl, hb10⟩; have HB10 := hide hb10; clear hb10))
            all_goals
              go_wp2
              go_roundw
              case rel => exact HZ.out w4 (HB8.out.trans ((((Below.drew (Below.refl _ w2)).trans HB9.out).trans (HB10.out.mono HB9.out.size)).mono (Nat.le_of_lt hsz3))) (Nat.lt_of_lt_of_le hsz4 HB10.out.size) ((HB10.out.cell (p := ⟨w.heap.size, 0, none⟩) hsz4).trans x0) ((HB10.out.cell (p := ⟨w.heap.size, 1, none⟩) hsz4).trans x1)
              case measure => simp [intOf]; omega
          | false =>
            by_cases hn1 : n = 1
            · have hni : ((n : Int) == 1) = true := beq_iff_eq.2 (by omega)
              have hbf : bs = false := by rw [hn1] at h12; simpa using h12
              subst hbf
              obtain ⟨hS, hZ⟩ := HSTEP.out (Sc.nl (cb + fu)) (by rw [hgen, hib, h12, Bool.false_or]; exact if_neg (by simp)) (by simp [Sc.nl]; omega) (by rw [Sc.colB_nl]; omega)
              have HZ := hide hZ
              have HE2 := hide (fun W1 hW => HEL.out W1 (sn ++ Sc.nl (cb + fu)) tl hW hS)
              have HLN := hide (fun W1 => line_any sn (cb + fu) W1 (by omega) (by omega))
              rw [hcw] at HLN
              generalize (⟨(sn ++ Sc.nl (cb + fu) ++ RL W es[n] (Sc.colB 0 (sn ++ Sc.nl (cb + fu))) tl).toArray⟩ : ByteArray) = rx at HE2 HZ
              generalize (⟨(sn ++ Sc.nl (cb + fu)).toArray⟩ : ByteArray) = sx at HLN HE2
              clear hS hZ HSTEP h0 hgen hib h12 hn1
              clear hcl hw1 hw2 hts hcw hle hs1 hs2 hol
              go_wp2_with (first
                | (go_at_call 25; refine (HBH.out _ HOR.out).mono ?_; rintro e w2 ⟨rfl, hb8⟩; have HB8 := hide (hbel.trans (hb8.mono hbel.size)); have y0 := (hb8.cell (p := ⟨w.heap.size, 0, none⟩) hsz2).trans z0; have y1 := (hb8.cell (p := ⟨w.heap.size, 1, none⟩) hsz2).trans z1; have hsz3 : w.heap.size < w2.heap.size := Nat.lt_of_lt_of_le hsz2 hb8.size; have HOR2 := hide (HOR.out.below hb8); clear hb8)
                | (go_at_call 26; refine (HLN.out _).mono ?_; rintro e w5 ⟨rfl, hb5⟩; have HB5 := hide (HB8.out.trans (hb5.mono HB8.out.size)); have v0 := (hb5.cell (p := ⟨w.heap.size, 0, none⟩) hsz3).trans y0; have v1 := (hb5.cell (p := ⟨w.heap.size, 1, none⟩) hsz3).trans y1; have hsz5 : w.heap.size < w5.heap.size := Nat.lt_of_lt_of_le hsz3 hb5.size; have HOR5 := hide (HOR2.out.below hb5); clear hb5)
                | (go_at_call 27; refine (HEN.out _ HOR5.out).mono ?_; rintro e w3 ⟨rfl, hw3⟩; subst w3))
              go_region_with (first
                | (go_at_call 29; rw [hwr.out]; refine (HTL.out _ (HOR5.out.below (Below.drew (Below.refl _ _)))).mono ?_; rintro e1 w3 ⟨rfl, hb9⟩; have HB9 := hide hb9; have x0 := (hb9.cell (p := ⟨w.heap.size, 0, none⟩) hsz5).trans v0; have x1 := (hb9.cell (p := ⟨w.heap.size, 1, none⟩) hsz5).trans v1; have hsz4 : w.heap.size < w3.heap.size := Nat.lt_of_lt_of_le hsz5 hb9.size; have HOR3 := hide ((HOR5.out.below (Below.drew (Below.refl _ _))).below hb9); clear hb9)
                | (go_at_call 28; refine (HE2.out _ HOR3.out).mono ?_; rintro e1 w4 ⟨rfl, hb10⟩; have HB10 := hide hb10; clear hb10))
              all_goals
                go_wp2
                go_roundw
                case rel => exact HZ.out w4 (HB5.out.trans ((((Below.drew (Below.refl _ w5)).trans HB9.out).trans (HB10.out.mono HB9.out.size)).mono (Nat.le_of_lt hsz5))) (Nat.lt_of_lt_of_le hsz4 HB10.out.size) ((HB10.out.cell (p := ⟨w.heap.size, 0, none⟩) hsz4).trans x0) ((HB10.out.cell (p := ⟨w.heap.size, 1, none⟩) hsz4).trans x1)
                case measure => simp [intOf]; omega
            · have hni : ((n : Int) == 1) = false := beq_eq_false_iff_ne.2 (by omega)
              obtain ⟨hS, hZ⟩ := HSTEP.out (Sc.nl (cb + fu)) (by rw [hgen, hib, h12, Bool.false_or]; exact if_neg (by simp)) (by simp [Sc.nl]; omega) (by rw [Sc.colB_nl]; omega)
              have HZ := hide hZ
              have HE2 := hide (fun W1 hW => HEL.out W1 (sn ++ Sc.nl (cb + fu)) tl hW hS)
              have HLN := hide (fun W1 => line_any sn (cb + fu) W1 (by omega) (by omega))
              rw [hcw] at HLN
              generalize (⟨(sn ++ Sc.nl (cb + fu) ++ RL W es[n] (Sc.colB 0 (sn ++ Sc.nl (cb + fu))) tl).toArray⟩ : ByteArray) = rx at HE2 HZ
              generalize (⟨(sn ++ Sc.nl (cb + fu)).toArray⟩ : ByteArray) = sx at HLN HE2
              clear hS hZ HSTEP h0 hgen hib h12 hn1
              clear hcl hw1 hw2 hts hcw hle hs1 hs2 hol
              go_wp2_with (first
                | (go_at_call 25; refine (HBH.out _ HOR.out).mono ?_; rintro e w2 ⟨rfl, hb8⟩; have HB8 := hide (hbel.trans (hb8.mono hbel.size)); have y0 := (hb8.cell (p := ⟨w.heap.size, 0, none⟩) hsz2).trans z0; have y1 := (hb8.cell (p := ⟨w.heap.size, 1, none⟩) hsz2).trans z1; have hsz3 : w.heap.size < w2.heap.size := Nat.lt_of_lt_of_le hsz2 hb8.size; have HOR2 := hide (HOR.out.below hb8); clear hb8)
                | (go_at_call 26; refine (HLN.out _).mono ?_; rintro e w5 ⟨rfl, hb5⟩; have HB5 := hide (HB8.out.trans (hb5.mono HB8.out.size)); have v0 := (hb5.cell (p := ⟨w.heap.size, 0, none⟩) hsz3).trans y0; have v1 := (hb5.cell (p := ⟨w.heap.size, 1, none⟩) hsz3).trans y1; have hsz5 : w.heap.size < w5.heap.size := Nat.lt_of_lt_of_le hsz3 hb5.size; have HOR5 := hide (HOR2.out.below hb5); clear hb5)
                | (go_at_call 27; refine (HEN.out _ HOR5.out).mono ?_; rintro e w3 ⟨rfl, hw3⟩; subst w3))
              go_region_with (first
                | (go_at_call 29; rw [hwr.out]; refine (HTL.out _ (HOR5.out.below (Below.drew (Below.refl _ _)))).mono ?_; rintro e1 w3 ⟨rfl, hb9⟩; have HB9 := hide hb9; have x0 := (hb9.cell (p := ⟨w.heap.size, 0, none⟩) hsz5).trans v0; have x1 := (hb9.cell (p := ⟨w.heap.size, 1, none⟩) hsz5).trans v1; have hsz4 : w.heap.size < w3.heap.size := Nat.lt_of_lt_of_le hsz5 hb9.size; have HOR3 := hide ((HOR5.out.below (Below.drew (Below.refl _ _))).below hb9); clear hb9)
                | (go_at_call 28; refine (HE2.out _ HOR3.out).mono ?_; rintro e1 w4 ⟨rfl, hb10⟩; have HB10 := hide hb10; clear hb10))
              all_goals
                go_wp2
                go_roundw
                case rel => exact HZ.out w4 (HB5.out.trans ((((Below.drew (Below.refl _ w5)).trans HB9.out).trans (HB10.out.mono HB9.out.size)).mono (Nat.le_of_lt hsz5))) (Nat.lt_of_lt_of_le hsz4 HB10.out.size) ((HB10.out.cell (p := ⟨w.heap.size, 0, none⟩) hsz4).trans x0) ((HB10.out.cell (p := ⟨w.heap.size, 1, none⟩) hsz4).trans x1)
                case measure => simp [intOf]; omega
    · have hne : n = es.length := by omega
      subst hne
      rw [List.take_length] at hkn
      have hdk := Sc.tok_next HD.out
      rw [← hkn] at hdk
      obtain ⟨hki, hk1, -, -, -⟩ := Sc.tok_at hdk
      rw [hw2] at hk1
      obtain ⟨g', hg1, -, -, hg5, -, d0, -, -, -⟩ := HOR.out.at kn hki
      cases hg1
      rw [hk1] at d0
      obtain ⟨hka, hcg⟩ := HAH.out
      have hkm : i + (Sc.toksL es).length = kn - 1 := by omega
      have hkm2 : 0 < kn := by omega
      obtain ⟨g', hg1, -, -, -, -, e0, -, -, -⟩ := HOR.out.at (i + (Sc.toksL es).length) hka
      cases hg1
      generalize ts[i + (Sc.toksL es).length].kind = ka at e0 hcg
      rw [hkm] at e0
      have hsn := HEQ.out
      rw [List.drop_length, Sc.layL, Sc.render, List.append_nil] at hsn
      have hRf := HRT.out
      rw [← hsn] at hRf
      have HRF := hide hRf
      have HCG := hide hcg
      have hsl4 : sn.length ≤ 10000000000 := by omega
      have HLN := hide (fun W1 => line_any sn (cb + fu) W1 (by omega) (by omega))
      rw [hcw] at HLN
      clear hcl hw1 hw2 hts hcw hle hs1 hs2 hol hRf hcg hsn hdk hk1 hka hkm hkn
      cases k5 : (ka == 5) with
      | true =>
        rw [k5, if_pos rfl] at HCG
        have hz4 := bsize (sn ++ Sc.nl (cb + fu))
        have hl4 : (sn ++ Sc.nl (cb + fu)).length ≤ 10000300000 := by simp [Sc.nl]; omega
        have hq41 := bapp1 (sn ++ Sc.nl (cb + fu)) 41
        have HX : Hid ((⟨(sn ++ Sc.nl (cb + fu) ++ [41]).toArray⟩ : ByteArray) = ⟨R.toArray⟩) := by rw [HRF.out, HCG.out, List.append_assoc]; exact hide rfl
        generalize (⟨(sn ++ Sc.nl (cb + fu) ++ [41]).toArray⟩ : ByteArray) = rx at hq41 HX
        generalize (⟨(sn ++ Sc.nl (cb + fu)).toArray⟩ : ByteArray) = sx at hq41 HLN hz4
        rw [← hz4] at hl4
        clear hz4
        go_wp2_with (go_at_call 26; refine (HLN.out _).mono ?_; rintro e w5 ⟨rfl, hb5⟩; have HB5 := hide (hbel.trans (hb5.mono hbel.size)); clear hb5)
        go_ret
        exact ⟨by rw [← HX.out]; rfl, HB5.out⟩
      | false =>
        rw [k5] at HCG
        have hq41 := bapp1 sn 41
        have HX : Hid ((⟨(sn ++ [41]).toArray⟩ : ByteArray) = ⟨R.toArray⟩) := by rw [HRF.out, HCG.out, if_neg (by simp), List.nil_append]; exact hide rfl
        generalize (⟨(sn ++ [41]).toArray⟩ : ByteArray) = rx at hq41 HX
        go_wp2
        go_ret
        exact ⟨by rw [← HX.out]; rfl, hbel⟩
end Go.Proofs.YtoieklacpkahbaaGreatDoor
