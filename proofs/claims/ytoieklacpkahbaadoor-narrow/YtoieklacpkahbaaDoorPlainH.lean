/- Plain laws for Narrow: how many elements a list has, by its tokens; where it stands on its line. No program here. -/
import Derived.Test.YtoieklacpkahbaaDoorPlainP
namespace Go.Proofs.YtoieklacpkahbaaDoor
open Go.RowKit
namespace Sc
/-- How many tokens begin an element at depth one (pk: the kind of the token ahead; d: how many are open). -/
def cg : Int → Int → List Tok → Nat
  | _, _, [] => 0
  | pk, d, t :: ts => (if d = 1 ∧ t.kind ≠ 3 ∧ pk ≠ 4 then 1 else 0) + cg t.kind (d + ((if t.kind = 2 then 1 else 0) - (if t.kind = 3 then 1 else 0))) ts
mutual
theorem El.cg_ok : ∀ (e : El), e.WF → ∀ (pk d : Int) (rest : List Tok), 1 ≤ d → cg pk d (e.toks ++ rest) = (if d = 1 ∧ pk ≠ 4 then 1 else 0) + cg e.last.kind d rest
  | .leaf t, h, pk, d, rest, hd => by
    have h : t.kind = 1 ∨ t.kind = 5 := h
    rw [El.toks, List.singleton_append, cg]
    have e1 : (if t.kind = 2 then (1 : Int) else 0) = 0 := if_neg (by omega)
    have e2 : (if t.kind = 3 then (1 : Int) else 0) = 0 := if_neg (by omega)
    rw [e1, e2, show d + ((0 : Int) - 0) = d by omega]
    congr 1
    by_cases hx : d = 1 ∧ pk ≠ 4
    · rw [if_pos hx, if_pos ⟨hx.1, by omega, hx.2⟩]
    · rw [if_neg hx, if_neg (fun h => hx ⟨h.1, h.2.2⟩)]
  | .pre t e, h, pk, d, rest, hd => by
    have h4 := h.1
    rw [El.toks, List.cons_append, cg]
    have e1 : (if t.kind = 2 then (1 : Int) else 0) = 0 := if_neg (by omega)
    have e2 : (if t.kind = 3 then (1 : Int) else 0) = 0 := if_neg (by omega)
    rw [e1, e2, show d + ((0 : Int) - 0) = d by omega, El.cg_ok e h.2.2 t.kind d rest hd, h4, if_neg (fun h : d = 1 ∧ (4 : Int) ≠ 4 => h.2 rfl), El.last]
    rw [show (0 : Nat) + cg e.last.kind d rest = cg e.last.kind d rest by omega]
    congr 1
    by_cases hx : d = 1 ∧ pk ≠ 4
    · rw [if_pos hx, if_pos ⟨hx.1, by omega, hx.2⟩]
    · rw [if_neg hx, if_neg (fun h => hx ⟨h.1, h.2.2⟩)]
  | .lst o es c, h, pk, d, rest, hd => by
    have h2 := h.1
    have h3 := h.2.1
    obtain ⟨pk', hp, hl⟩ := cgL_ok es h.2.2 o.kind (d + 1) ([c] ++ rest) (by omega) (by omega)
    rw [El.toks, List.cons_append, cg, List.append_assoc]
    have e1 : (if o.kind = 2 then (1 : Int) else 0) = 1 := if_pos h2
    have e2 : (if o.kind = 3 then (1 : Int) else 0) = 0 := if_neg (by omega)
    rw [e1, e2, show d + ((1 : Int) - 0) = d + 1 by omega, hl, if_neg (by omega : ¬ d + 1 = 1), List.singleton_append, cg]
    have e3 : (if c.kind = 2 then (1 : Int) else 0) = 0 := if_neg (by omega)
    have e4 : (if c.kind = 3 then (1 : Int) else 0) = 1 := if_pos h3
    have e5 : (if d + 1 = 1 ∧ c.kind ≠ 3 ∧ pk' ≠ 4 then 1 else 0) = 0 := if_neg (fun h => h.2.1 h3)
    rw [e3, e4, show d + 1 + ((0 : Int) - 1) = d by omega, e5, El.last]
    simp only [Nat.zero_add]
    congr 1
    by_cases hx : d = 1 ∧ pk ≠ 4
    · rw [if_pos hx, if_pos ⟨hx.1, by omega, hx.2⟩]
    · rw [if_neg hx, if_neg (fun h => hx ⟨h.1, h.2.2⟩)]
theorem cgL_ok : ∀ (es : List El), WFL es → ∀ (pk d : Int) (rest : List Tok), 1 ≤ d → pk ≠ 4 → ∃ pk', pk' ≠ 4 ∧ cg pk d (toksL es ++ rest) = (if d = 1 then es.length else 0) + cg pk' d rest
  | [], _, pk, d, rest, _, hp => ⟨pk, hp, by rw [toksL]; simp⟩
  | e :: es, h, pk, d, rest, hd, hp => by
    obtain ⟨pk', h1, h2⟩ := cgL_ok es h.2 e.last.kind d rest hd (El.last_kind h.1).2
    refine ⟨pk', h1, ?_⟩
    rw [toksL, List.append_assoc, El.cg_ok e h.1 pk d _ hd, h2]
    by_cases hx : d = 1
    · rw [if_pos ⟨hx, hp⟩, if_pos hx, if_pos hx, List.length_cons]; omega
    · rw [if_neg (fun h => hx h.1), if_neg hx, if_neg hx]; omega
end
theorem cg_lst {o c : Tok} {es : List El} (h : (El.lst o es c).WF) : cg 0 0 (El.lst o es c).toks = es.length := by
  have h2 := h.1
  have h3 := h.2.1
  obtain ⟨pk', hp, hl⟩ := cgL_ok es h.2.2 o.kind 1 [c] (by omega) (by omega)
  rw [El.toks, cg]
  have e1 : (if o.kind = 2 then (1 : Int) else 0) = 1 := if_pos h2
  have e2 : (if o.kind = 3 then (1 : Int) else 0) = 0 := if_neg (by omega)
  rw [e1, e2, show (0 : Int) + ((1 : Int) - 0) = 1 by omega, hl, if_pos rfl, if_neg (by omega), cg, if_neg (fun h => h.2.1 h3), cg]
  omega
theorem net_len (l : List Tok) : net l ≤ l.length := by
  induction l with
  | nil => simp [net]
  | cons t l ih =>
    rw [net, List.length_cons]
    split <;> split <;> omega
theorem cg_le : ∀ (l : List Tok) (pk d : Int), cg pk d l ≤ l.length
  | [], _, _ => by simp [cg]
  | t :: l, pk, d => by
    rw [cg, List.length_cons]
    have := cg_le l t.kind (d + ((if t.kind = 2 then 1 else 0) - (if t.kind = 3 then 1 else 0)))
    split <;> omega
/-- The tokens of a list, as 'elements' goes through them. -/
structure Els (T : List Tok) (n : Nat) : Prop where
  pos : 0 < T.length
  ins : ∀ j, 0 < j → j < T.length → 1 ≤ net (T.take j)
  fin : net T = 0
  cnt : cg 0 0 T = n
theorem Els.le {T : List Tok} {n : Nat} (h : Els T n) : n ≤ T.length := by rw [← h.cnt]; exact cg_le _ _ _
theorem els_lst {o c : Tok} {es : List El} (h : (El.lst o es c).WF) : Els (El.lst o es c).toks es.length :=
  ⟨by rw [El.toks]; simp, fun j h0 hj => lst_net h j h0 hj, (El.net_ok _ h).1, cg_lst h⟩
/-- What is left to be counted from the j-th on. -/
def rem (T : List Tok) (j : Nat) : Nat := cg (if j = 0 then 0 else ((T[j - 1]?).map (·.kind)).getD 0) (net (T.take j)) (T.drop j)
theorem rem_zero (T : List Tok) : rem T 0 = cg 0 0 T := rfl
theorem rem_end (T : List Tok) : rem T T.length = 0 := by unfold rem; rw [List.drop_length]; rfl
theorem net_take_succ (T : List Tok) (j : Nat) (hj : j < T.length) : net (T.take (j + 1)) = net (T.take j) + ((if T[j].kind = 2 then 1 else 0) - (if T[j].kind = 3 then 1 else 0)) := by
  rw [List.take_succ_eq_append_getElem hj, net_app, net, net]; omega
theorem rem_succ (T : List Tok) (j : Nat) (hj : j < T.length) : rem T j = (if net (T.take j) = 1 ∧ T[j].kind ≠ 3 ∧ (if j = 0 then 0 else ((T[j - 1]?).map (·.kind)).getD 0) ≠ 4 then 1 else 0) + rem T (j + 1) := by
  unfold rem
  rw [List.drop_eq_getElem_cons hj, cg, net_take_succ T j hj, if_neg (by omega : ¬ j + 1 = 0), Nat.add_sub_cancel, List.getElem?_eq_getElem hj]
  rfl
mutual
theorem Occ.wf : ∀ {e : El} {P : List Tok} {L : El} {Q : List Tok}, Occ e P L Q → e.WF → L.WF
  | _, _, _, _, .here _, h => h
  | _, _, _, _, .pre k, h => k.wf h.2.2
  | _, _, _, _, .lst k, h => k.wf h.2.2
theorem OccL.wf : ∀ {es : List El} {P : List Tok} {L : El} {Q : List Tok}, OccL es P L Q → WFL es → L.WF
  | _, _, _, _, .head k, h => k.wf h.1
  | _, _, _, _, .tail k, h => k.wf h.2
end
theorem tw_le (A B : List UInt8) : ((A ++ B).takeWhile inLn).length ≤ A.length + (B.takeWhile inLn).length := by
  induction A with
  | nil => simp
  | cons a A ih =>
    rw [List.cons_append, List.takeWhile_cons]
    split
    · simp only [List.length_cons]; omega
    · simp
theorem tw_in {A : List UInt8} (h : 10 ∈ A) (B : List UInt8) : ((A ++ B).takeWhile inLn).length < A.length := by
  induction A with
  | nil => simp at h
  | cons a A ih =>
    rw [List.cons_append, List.takeWhile_cons]
    by_cases ha : a = 10
    · subst ha
      rw [if_neg (by decide)]
      simp
    · rw [if_pos (by simp [inLn, ha])]
      rcases List.mem_cons.1 h with h | h
      · exact absurd h.symm ha
      · have := ih h
        simp only [List.length_cons]; omega
/-- A list that begins at frm, and whose last bracket stands at to: where it lies on one line, that is not longer than W. -/
def LineAt (F : List UInt8) (frm to W : Nat) : Prop :=
  to < F.length ∧ frm ≤ to ∧ (to < frm + ((F.drop frm).takeWhile inLn).length → colB 0 (F.take frm) + ((F.drop frm).takeWhile inLn).length ≤ W)
/-- The list that begins with the i-th token. -/
def LstAt (us : List Tok) (i : Nat) (T : List Tok) : Prop := i + T.length ≤ us.length ∧ ∀ j (hj : j < T.length), (us[i + j]?).map (·.kind) = some T[j].kind
theorem placed_kind (ps : List (List UInt8 × Tok)) (k i : Nat) : ((placed ps k)[i]?).map (·.kind) = ((ps.map (·.2))[i]?).map (·.kind) := by
  by_cases h : i < ps.length
  · rw [placed_get ps k i h, List.getElem?_map, List.getElem?_eq_getElem h]; rfl
  · rw [List.getElem?_eq_none (by rw [placed_len]; omega), List.getElem?_eq_none (by simp; omega)]
theorem nar_at {l : List UInt8} {ts : List Tok} {pl : Int} (h : scanRes l = (ts, 0, pl)) (W : Nat) {ps : List (List UInt8 × Tok)} (hps : ps = layL W (parse (ts.map erase)) 0 0 0 false 0) (hm : ps.map (·.2) = ts.map erase)
    (i : Nat) (hi : i < (placed ps 0).length) (hk : (placed ps 0)[i].kind = 2) :
    ∃ (T : List Tok) (n frm to : Nat) (he : i + T.length - 1 < (placed ps 0).length), LstAt (placed ps 0) i T ∧ Els T n ∧ (placed ps 0)[i].place = frm ∧ (placed ps 0)[i + T.length - 1].place = to ∧ frm ≤ (render ps [10]).length ∧ to ≤ (render ps [10]).length ∧ (3 ≤ n → LineAt (render ps [10]) frm to W) := by
  have hs := parse_spec (els_of_scan h)
  have hlen := placed_len ps 0
  have hip : i < ps.length := by omega
  have hk2 : ps[i].2.kind = 2 := by
    have := placed_kind ps 0 i
    rw [List.getElem?_eq_getElem hi, List.getElem?_map, List.getElem?_eq_getElem hip] at this
    have e : (placed ps 0)[i].kind = ps[i].2.kind := by simpa using this
    omega
  have htk : toksL (parse (ts.map erase)) = ps.map (·.2) := by rw [hs.1, hm]
  obtain ⟨P, es, c, Q, ho, hP⟩ := occL _ hs.2 i ps[i].2 (by rw [htk, List.getElem?_map, List.getElem?_eq_getElem hip]; rfl) hk2
  have hwf := ho.wf hs.2
  have hT := ho.toks
  rw [htk] at hT
  obtain ⟨T, hTe⟩ : ∃ T, T = (El.lst ps[i].2 es c).toks := ⟨_, rfl⟩
  have hE := els_lst hwf
  rw [← hTe] at hT hE
  have hll : P.length + (T.length + Q.length) = ps.length := by
    have := congrArg List.length hT; simpa using this.symm
  have hpos := hE.pos
  have hT2 : 2 ≤ T.length := by rw [hTe, El.toks]; simp
  have he : i + T.length - 1 < (placed ps 0).length := by omega
  have hep : i + T.length - 1 < ps.length := by omega
  have hpi : (placed ps 0)[i] = { ps[i].2 with place := ((0 + (render (ps.take i) []).length + ps[i].1.length : Nat) : Int) } := by
    have := placed_get ps 0 i hip
    rw [List.getElem?_eq_getElem hi] at this
    simpa using this
  have hpe : (placed ps 0)[i + T.length - 1] = { ps[i + T.length - 1].2 with place := ((0 + (render (ps.take (i + T.length - 1)) []).length + ps[i + T.length - 1].1.length : Nat) : Int) } := by
    have := placed_get ps 0 _ hep
    rw [List.getElem?_eq_getElem he] at this
    simpa using this
  have hrl : ∀ k (hk : k < ps.length), (render (ps.take k) []).length + ps[k].1.length ≤ (render ps [10]).length := by
    intro k hk
    have h1 := render_take ps [10] k
    have h2 := render_at ps [10] k hk
    have h3 := congrArg List.length h2
    rw [List.length_drop] at h3
    have h4 := congrArg List.length h1
    simp only [List.length_append] at h3 h4
    omega
  refine ⟨T, es.length, _, _, he, ⟨by omega, fun j hj => ?_⟩, hE, by rw [hpi], by rw [hpe], by have := hrl i hip; omega, by have := hrl _ hep; omega, fun h3 => ?_⟩
  · rw [placed_kind, hT, List.getElem?_append_right (by omega), List.getElem?_append_left (by omega), show i + j - P.length = j by omega, List.getElem?_eq_getElem hj]
    rfl
  · obtain ⟨ps1, g, o, M, ps2, q1, q2, q3, q4, q5⟩ := nar_plain h W h3 ho
    rw [← hps] at q1
    rw [← hTe] at q3
    have hl1 : ps1.length = i := by rw [← hP, ← q2, List.length_map]
    have hlM : M.length + 1 = T.length := by rw [← q3]; simp
    obtain ⟨M', x, hM⟩ : ∃ M' x, M = M' ++ [x] := by
      have : M ≠ [] := fun h => by rw [h] at hlM; simp at hlM; omega
      exact ⟨_, _, (List.dropLast_concat_getLast this).symm⟩
    have hlM' : M'.length + 2 = T.length := by rw [hM] at hlM; simpa using hlM
    have hxc : x.2 = c := by
      have h1 : (o :: M'.map (·.2)) ++ [x.2] = (ps[i].2 :: toksL es) ++ [c] := by
        have := q3
        rw [hTe, El.toks, hM, List.map_append] at this
        exact this
      have h2 := (List.append_inj' h1 rfl).2
      simpa using h2
    have hcx : x.2.text.length = 1 := by
      have hmem : c ∈ ts.map erase := by
        rw [← hs.1, htk, hT]
        refine List.mem_append_right _ (List.mem_append_left _ ?_)
        rw [hTe, El.toks]; simp
      obtain ⟨u, hu, hue⟩ := List.mem_map.1 hmem
      have hc3 := hwf.2.1
      rw [hxc, ← hue]
      have : u.kind = 3 := by rw [← hue] at hc3; exact hc3
      have := (scan_good h u hu).1.close this
      show u.text.length = 1
      rw [this]; rfl
    have t1 : ps.take i = ps1 := by rw [q1, ← hl1, List.take_left]
    have g1 : ps[i] = (g, o) := by
      have : ps[i]? = some (g, o) := by rw [q1, List.getElem?_append_right (by omega), show i - ps1.length = 0 by omega]; rfl
      rw [List.getElem?_eq_getElem hip] at this
      exact Option.some.inj this
    have q1' : ps = (ps1 ++ (g, o) :: M') ++ (x :: ps2) := by rw [q1, hM]; simp
    have hl2 : (ps1 ++ (g, o) :: M').length = i + T.length - 1 := by simp; omega
    have t2 : ps.take (i + T.length - 1) = ps1 ++ (g, o) :: M' := by
      conv => lhs; rw [q1']
      rw [← hl2, List.take_left]
    have g2 : ps[i + T.length - 1] = x := by
      have : ps[i + T.length - 1]? = some x := by
        conv => lhs; rw [q1']
        rw [List.getElem?_append_right (by omega), show i + T.length - 1 - (ps1 ++ (g, o) :: M').length = 0 by omega]; rfl
      rw [List.getElem?_eq_getElem hep] at this
      exact Option.some.inj this
    have rM : render M [] = render M' [] ++ (x.1 ++ x.2.text) := by
      rw [hM, render_app, render_tl]; simp [render]
    have rF : render ps [10] = (render ps1 [] ++ g) ++ ((o.text ++ (render M' [] ++ x.1)) ++ (x.2.text ++ render ps2 [10])) := by
      have r1 : render ps [10] = render ps1 (render ((g, o) :: M') (render (x :: ps2) [10])) := by
        conv => lhs; rw [q1']
        rw [render_app, render_app]
      have r2 : render ((g, o) :: M') (render (x :: ps2) [10]) = g ++ (o.text ++ render M' (x.1 ++ (x.2.text ++ render ps2 [10]))) := rfl
      rw [r1, r2, render_tl ps1, render_tl M']
      simp only [List.append_assoc]
    have lE : (render (ps1 ++ (g, o) :: M') []).length = (render ps1 []).length + g.length + o.text.length + (render M' []).length := by
      rw [render_app, render_tl]; simp [render]; omega
    rw [t1, t2, g1, g2, lE]
    have hfr : (0 + (render ps1 []).length + (g, o).1.length) = (render ps1 [] ++ g).length := by simp
    have hto : (0 + ((render ps1 []).length + g.length + o.text.length + (render M' []).length) + x.1.length) = (render ps1 [] ++ g).length + (o.text ++ (render M' [] ++ x.1)).length := by simp; omega
    rw [hfr, hto]
    have hdr : (render ps [10]).drop (render ps1 [] ++ g).length = (o.text ++ (render M' [] ++ x.1)) ++ (x.2.text ++ render ps2 [10]) := by rw [rF, List.drop_left]
    have htk2 : (render ps [10]).take (render ps1 [] ++ g).length = render ps1 [] ++ g := by rw [rF, List.take_left]
    refine ⟨?_, by omega, fun hlt => ?_⟩
    · rw [rF]; simp only [List.length_append] at hcx ⊢; omega
    · rw [hdr] at hlt ⊢
      rw [htk2]
      rcases q5 with q5 | q5
      · exfalso
        have hin : (10 : UInt8) ∈ o.text ++ (render M' [] ++ x.1) := by
          rw [rM] at q5
          rcases List.mem_append.1 q5 with h' | h'
          · exact List.mem_append_right _ (List.mem_append_left _ h')
          · rcases List.mem_append.1 h' with h' | h'
            · exact List.mem_append_right _ (List.mem_append_right _ h')
            · exfalso
              have hx3 : x.2.kind = 3 := by rw [hxc]; exact hwf.2.1
              have hmem : c ∈ ts.map erase := by
                rw [← hs.1, htk, hT]
                refine List.mem_append_right _ (List.mem_append_left _ ?_)
                rw [hTe, El.toks]; simp
              obtain ⟨u, hu, hue⟩ := List.mem_map.1 hmem
              have hu3 : u.kind = 3 := by rw [hxc, ← hue] at hx3; exact hx3
              have hut := (scan_good h u hu).1.close hu3
              rw [hxc, ← hue] at h'
              have h' : (10 : UInt8) ∈ u.text := h'
              rw [hut] at h'
              simp at h'
        have := tw_in hin (x.2.text ++ render ps2 [10])
        omega
      · have a1 := tw_le (o.text ++ (render M' [] ++ x.1)) (x.2.text ++ render ps2 [10])
        have a2 := tw_le x.2.text (render ps2 [10])
        rw [rM] at q5
        simp only [List.length_append] at a1 q5 ⊢
        omega
end Sc
end Go.Proofs.YtoieklacpkahbaaDoor
