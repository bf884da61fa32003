/- Walks: leadsElement. -/
/- Walks: checkLists. -/
import Derived.Test.YtoieklacpkahbaaDoorOwn
import Derived.Test.YtoieklacpkahbaaDoorPlainE
import Derived.BigQuiet
import Derived.Deep.QuietTactic
import Derived.Deep.RegionWith
namespace Go.Proofs.YtoieklacpkahbaaDoor
open Go.RowKit

def aggOf (t : Sc.Tok) : Value := .agg #[.int .i64 t.kind, .string ⟨t.text.toArray⟩, .int .i64 t.place, .bool t.behind]

set_option maxHeartbeats 400000 in
theorem leads_nil (p : Sc.Tok) (ao : Option Addr) (n c : Nat) (w : World) (hn : n = 0) :
    Calls Tryd.prog 42 #[.agg #[.int .i64 p.kind, .string ⟨p.text.toArray⟩, .int .i64 p.place, .bool p.behind], .slice ao n c] w fun e w' => e = .returned (.bool false) ∧ Below w.heap.size w w' := by
  subst hn
  go_enter Tryd.func42, Tryd.ntmps42
  go_wp2
  go_ret
  exact ⟨rfl, (Below.refl _ _).alloc (Nat.le_refl _) _⟩

theorem ret_bool {a b : Bool} (h : a = b) : Ending.returned (.bool a) = .returned (.bool b) := by rw [h]
theorem head_ne (l : List UInt8) (h : 0 < (⟨l.toArray⟩ : ByteArray).size) : (((⟨l.toArray⟩ : ByteArray)[0].toNat : Int) != 64) = !(l.headD 0 == 64) := by
  match l, h with
  | [], h => exact absurd h (by decide)
  | c :: r, h =>
    have e : (⟨(c :: r).toArray⟩ : ByteArray)[0] = c := rfl
    rw [e, List.headD_cons]
    by_cases hc : c = 64
    · subst hc; rfl
    · have h1 : ¬ ((c.toNat : Int) = 64) := fun x => hc (UInt8.toNat_inj.1 (by show c.toNat = 64; omega))
      have h2 : (c == 64) = false := by simpa using hc
      rw [h2]; simpa using h1
theorem lead1 {p t : Sc.Tok} (h3 : (t.kind == 3) = true) : Sc.leadsB p t = false := by
  unfold Sc.leadsB; rw [if_pos (by simpa using h3)]
theorem lead2 {p t : Sc.Tok} (h3 : (t.kind == 3) = false) (h5 : (t.kind == 5) = true) : Sc.leadsB p t = false := by
  unfold Sc.leadsB; rw [if_neg (by simpa using h3), if_pos (by simpa using h5)]
theorem lead3 {p t : Sc.Tok} (h3 : (t.kind == 3) = false) (h5 : (t.kind == 5) = false) (h1 : (t.kind == 1) = true) (hp : p.text = [44]) : Sc.leadsB p t = !(t.text.headD 0 == 64) := by
  unfold Sc.leadsB; rw [if_neg (by simpa using h3), if_neg (by simpa using h5), if_pos (by simpa using h1), hp]; rfl
theorem lead4 {p t : Sc.Tok} (h3 : (t.kind == 3) = false) (h5 : (t.kind == 5) = false) (h1 : (t.kind == 1) = true) (hp : ¬ p.text = [44]) : Sc.leadsB p t = true := by
  unfold Sc.leadsB; rw [if_neg (by simpa using h3), if_neg (by simpa using h5), if_pos (by simpa using h1)]; simp [hp]
theorem lead5 {p t : Sc.Tok} (h3 : (t.kind == 3) = false) (h5 : (t.kind == 5) = false) (h1 : (t.kind == 1) = false) : Sc.leadsB p t = true := by
  unfold Sc.leadsB; rw [if_neg (by simpa using h3), if_neg (by simpa using h5), if_neg (by simpa using h1)]

set_option maxHeartbeats 400000 in
theorem leads_some (p t : Sc.Tok) (g off n c : Nat) (w : World) (hn : 0 < n) (hn2 : n ≤ 4096) (hg : g < w.heap.size) (hne : 0 < t.text.length)
    (c0 : w.cell? ⟨g, off, none⟩ = some (.int .i64 t.kind)) (c1 : w.cell? ⟨g, off + 1, none⟩ = some (.string ⟨t.text.toArray⟩))
    (c2 : w.cell? ⟨g, off + 2, none⟩ = some (.int .i64 t.place)) (c3 : w.cell? ⟨g, off + 3, none⟩ = some (.bool t.behind)) :
    Calls Tryd.prog 42 #[.agg #[.int .i64 p.kind, .string ⟨p.text.toArray⟩, .int .i64 p.place, .bool p.behind], .slice (some ⟨g, off, none⟩) n c] w fun e w' => e = .returned (.bool (Sc.leadsB p t)) ∧ Below w.heap.size w w' := by
  go_enter Tryd.func42, Tryd.ntmps42
  go_wp2
  · have h3 : (t.kind == 3) = true := by assumption
    go_ret
    exact ⟨by rw [lead1 h3]; rfl, ((Below.refl _ _).alloc (Nat.le_refl _) _).alloc (by simp) _⟩
  · have h3 : (t.kind == 3) = false := by assumption
    have h5 : (t.kind == 5) = true := by assumption
    go_ret
    exact ⟨by rw [lead2 h3 h5]; rfl, ((Below.refl _ _).alloc (Nat.le_refl _) _).alloc (by simp) _⟩
  · have h3 : (t.kind == 3) = false := by assumption
    have h5 : (t.kind == 5) = false := by assumption
    have h1 : (t.kind == 1) = true := by assumption
    have hp : p.text = [44] := by assumption
    go_ret
    refine ⟨?_, ((Below.refl _ _).alloc (Nat.le_refl _) _).alloc (by simp) _⟩
    rw [lead3 h3 h5 h1 hp]
    exact ret_bool (head_ne _ _)
  · have h3 : (t.kind == 3) = false := by assumption
    have h5 : (t.kind == 5) = false := by assumption
    have h1 : (t.kind == 1) = true := by assumption
    have hp : ¬ p.text = [44] := by assumption
    go_ret
    exact ⟨by rw [lead4 h3 h5 h1 hp]; rfl, ((Below.refl _ _).alloc (Nat.le_refl _) _).alloc (by simp) _⟩
  · have h3 : (t.kind == 3) = false := by assumption
    have h5 : (t.kind == 5) = false := by assumption
    have h1 : (t.kind == 1) = false := by assumption
    go_ret
    exact ⟨by rw [lead5 h3 h5 h1]; rfl, ((Below.refl _ _).alloc (Nat.le_refl _) _).alloc (by simp) _⟩
end Go.Proofs.YtoieklacpkahbaaDoor
namespace Go.Proofs.YtoieklacpkahbaaDoor
open Go.RowKit

theorem infoInt : (Tryd.prog.info? 3).map (fun i => (i.zero, i.size, i.bytes)) = some (some (.int .i64 0), 1, 8) := by kernel_rfl

/-- The places of the open lists, in memory. -/
def OwnsI (w : World) (B : Nat) (v : Value) (st : List Int) : Prop := w.ownsRow B 3 1 v st.length (st.map (Value.int .i64))
theorem OwnsI.shape {w : World} {B : Nat} {v : Value} {st : List Int} (h : OwnsI w B v st) : ∃ ao cap, v = .slice ao st.length cap := by
  rcases h.2 with ⟨rfl, hn⟩ | ⟨g, cap, cur, rfl, _⟩
  · exact ⟨_, _, by rw [hn]⟩
  · exact ⟨_, _, rfl⟩
/-- The innermost of them. -/
def topP (st : List Int) : Int := st.getLastD 0
theorem OwnsI.row {w : World} {B : Nat} {ao : Option Addr} {n cap : Nat} {st : List Int} (h : OwnsI w B (.slice ao n cap) st) (hn : 0 < st.length) :
    ∃ g, ao = some ⟨g, 0, none⟩ ∧ st.length ≤ cap ∧ B ≤ g ∧ g < w.heap.size ∧ w.cell? ⟨g, st.length - 1, none⟩ = some (.int .i64 (topP st)) ∧ OwnsI w B (.slice (some ⟨g, 0, none⟩) (st.length - 1) cap) st.dropLast := by
  have h' := h
  unfold topP
  rcases h.2 with ⟨_, h0⟩ | ⟨g, cap', cur, e, hB, hgg, h1, _⟩
  · omega
  · injection e with e1 e2 e3
    subst e1 e2 e3
    have hne : st ≠ [] := by intro x; rw [x] at hn; simp at hn
    have hd : st = st.dropLast ++ [st.getLastD 0] := by
      rw [List.getLastD_eq_getLast?, List.getLast?_eq_some_getLast hne]; exact (List.dropLast_concat_getLast hne).symm
    refine ⟨g, rfl, h1, hB, (Array.getElem?_eq_some_iff.1 hgg).1, ?_, ?_⟩
    · rw [World.ownsRow.cellAt h' (st.length - 1) (by omega), List.getElem?_map]
      have : st[st.length - 1]? = some (st.getLastD 0) := by rw [← List.getLast?_eq_getElem?, List.getLastD_eq_getLast?, List.getLast?_eq_some_getLast hne]; rfl
      rw [this]; rfl
    · have hl : st.length = st.dropLast.length + 1 := by simp; omega
      unfold OwnsI at h' ⊢
      rw [List.length_dropLast]
      refine ownsRow_pop (last := [Value.int .i64 (st.getLastD 0)]) (by simp) ?_
      rw [show st.length - 1 + 1 = st.length by omega, show [Value.int .i64 (st.getLastD 0)] = [st.getLastD 0].map (Value.int .i64) from rfl, ← List.map_append, ← hd]
      exact h'

theorem one_new2 (w : World) (o : Obj) (e : TypeId) (x : Value) : ∀ j u, [x][j]? = some u → ((w.alloc o).alloc (.cells #[x] e)).cell? ((⟨w.heap.size + 1, 0, none⟩ : Addr).add j) = some u := by
  intro j u hj
  match j, hj with
  | 0, hj => simp at hj; subst hj; simp [Addr.add]
  | _ + 1, hj => simp at hj
theorem one_one (p : Int) : ∀ u ∈ [Value.int .i64 p], u.oneCell' = true := by
  intro u hu; simp at hu; subst hu; rfl

set_option maxRecDepth 20000 in
set_option maxHeartbeats 2000000 in
theorem checkLists_any (ao : Option Addr) (cap : Nat) (ts : List Sc.Tok) (B0 : Nat) (w : World) (h : Owns w B0 (.slice ao ts.length cap) ts) (hn : ts.length ≤ 4096) (hne : ∀ t ∈ ts, 0 < t.text.length) :
    Calls Tryd.prog 27 #[.slice ao ts.length cap] w fun e w' => e = .returned (.tuple #[.int .i64 (Sc.listsRes ts).1, .int .i64 (Sc.listsRes ts).2]) ∧ Below w.heap.size w w' := by
  obtain ⟨i0, hi, hz0, hz1, hz2⟩ := info_parts infoInt
  have HN := hide hne; clear hne
  generalize hL : Sc.listsRes ts = LR
  have HL := hide hL; clear hL
  go_enter Tryd.func27, Tryd.ntmps27
  go_wp2
  go_loopw [4, 9] (fun o i wr => ∃ (k : Nat) (st : List Int), k ≤ ts.length ∧ st.length ≤ 32 ∧ i = .int .i64 k ∧ OwnsI wr w.heap.size o st ∧ Below w.heap.size w wr ∧ Hid (LR = Sc.listsGo (ts.drop k) st)) (fun _ i _ => ts.length - (intOf i).toNat)
  case atStart => exact ⟨0, [], by omega, by simp, rfl, World.ownsRow_nil _ _ _ _, Below.refl _ _, HL.out.symm⟩
  case round =>
    obtain ⟨k, st, h1, h2, rfl, hown, hbel, HK⟩ := hrel
    obtain ⟨oo, oc, hoe⟩ := hown.shape
    rw [hoe] at hown
    rw [hoe]
    clear hoe
    by_cases hlt : k < ts.length
    · obtain ⟨g, hg1, _, hg3, hg4, hcap, c0, c1, c2, c3⟩ := h.at k hlt
      subst hg1
      have cc := fun (a : Addr) (ha : a.block < w.heap.size) => hbel.cell (p := a) ha
      have d0 := (cc ⟨g, k * 4, none⟩ hg4).trans c0
      have d1 := (cc ⟨g, k * 4 + 1, none⟩ hg4).trans c1
      have d2 := (cc ⟨g, k * 4 + 2, none⟩ hg4).trans c2
      have d3 := (cc ⟨g, k * 4 + 3, none⟩ hg4).trans c3
      clear cc c0 c1 c2 c3
      obtain ⟨t, ht⟩ : ∃ t, t = ts[k] := ⟨_, rfl⟩
      rw [← ht] at d0 d1 d2 d3
      have hdr := List.drop_eq_getElem_cons hlt
      rw [← ht] at hdr
      have HD := hide hdr
      have HT := hide ht
      clear ht hdr
      cases k2 : (t.kind == 2) with
      | true =>
        by_cases h32 : st.length = 32
        · have hb : ((st.length : Int) == 32) = true := beq_iff_eq.2 (by omega)
          have HX : Hid (LR = (8, t.place)) := by
            rw [HK.out, HD.out, Sc.listsGo, if_pos (by simpa using k2), if_pos h32]; exact hide rfl
          clear h32
          go_wp2
          go_quiet (fail)
          go_wp2
          go_ret2
          exact ⟨by rw [HX.out]; rfl, below_drewN (hbel.alloc hbel.size _) _⟩
        · have hb : ((st.length : Int) == 32) = false := beq_eq_false_iff_ne.2 (by omega)
          have HX : Hid (LR = Sc.listsGo (ts.drop (k + 1)) (st ++ [t.place])) := by
            rw [HK.out, HD.out, Sc.listsGo, if_pos (by simpa using k2), if_neg h32]; exact hide rfl
          go_wp2_with (at_builtin; refine wpList_append_own _ rfl (.tmp 23) (.tmp 26) 43 rfl w.heap.size 3 i0 _ 1 8 Tryd.underlying43 hi hz0 hz1 hz2 rfl (by decide) _ _ _ rfl (World.ownsRow.alloc (World.ownsRow.alloc hown _) _) ⟨wr.heap.size + 1, 0, none⟩ 1 1 [.int .i64 t.place] rfl rfl (one_new2 _ _ _ _) (one_one _) ?c3 ?c4 ?c5 ?_)
          case c3 => unfold maxLen; omega
          case c4 => omega
          case c5 => have := hbel.size; simp; omega
          intro v' w' hown' hgrow hnn
          have hst : OwnsI w' w.heap.size v' (st ++ [t.place]) := by
            unfold OwnsI; rw [List.map_append, List.length_append]; exact hown'
          have hbe : Below w.heap.size w w' := ((hbel.alloc hbel.size _).alloc (by have := hbel.size; simp; omega) _).grown hgrow (by have := hbel.size; simp; omega) fun q hq => (World.ownsRow.lt hown q hq).1
          clear hown' hgrow hnn
          go_wp2
          go_roundw
          case rel => exact ⟨k + 1, _, by omega, by simp; omega, by go_num, hst, hbe, HX⟩
          case measure => simp [intOf]; omega
      | false =>
      cases k3 : (t.kind == 3) with
      | true =>
        by_cases h0 : st.length = 0
        · have hb : ((st.length : Int) == 0) = true := beq_iff_eq.2 (by omega)
          have HX : Hid (LR = (6, t.place)) := by
            rw [HK.out, HD.out, Sc.listsGo, if_neg (by simpa using k2), if_pos (by simpa using k3), if_pos h0]; exact hide rfl
          clear h0
          go_wp2
          go_quiet (fail)
          go_wp2
          go_ret2
          exact ⟨by rw [HX.out]; rfl, below_drewN (hbel.alloc hbel.size _) _⟩
        · have hb : ((st.length : Int) == 0) = false := beq_eq_false_iff_ne.2 (by omega)
          have HX : Hid (LR = Sc.listsGo (ts.drop (k + 1)) st.dropLast) := by
            rw [HK.out, HD.out, Sc.listsGo, if_neg (by simpa using k2), if_pos (by simpa using k3), if_neg h0]; exact hide rfl
          obtain ⟨go, rfl, q1, q2, q3, q4, q5⟩ := hown.row (by omega)
          clear q4
          go_wp2
          go_roundw
          case rel => exact ⟨k + 1, st.dropLast, by omega, by simp; omega, by go_num, World.ownsRow.alloc q5 _, hbel.alloc hbel.size _, HX⟩
          case measure => simp [intOf]; omega
      | false =>
      cases k4 : (t.kind == 4) with
      | false =>
        have HX : Hid (LR = Sc.listsGo (ts.drop (k + 1)) st) := by
          rw [HK.out, HD.out, Sc.listsGo, if_neg (by simpa using k2), if_neg (by simpa using k3), if_neg (by simpa using k4)]; exact hide rfl
        go_wp2
        go_roundw
        case rel => exact ⟨k + 1, st, by omega, by omega, by go_num, World.ownsRow.alloc hown _, hbel.alloc hbel.size _, HX⟩
        case measure => simp [intOf]; omega
      | true =>
        have HX : Hid (LR = if Sc.leads t (ts.drop (k + 1)) then Sc.listsGo (ts.drop (k + 1)) st else (7, t.place)) := by
          rw [HK.out, HD.out, Sc.listsGo, if_neg (by simpa using k2), if_neg (by simpa using k3), if_pos (by simpa using k4)]; exact hide rfl
        have hwr2 : IntKind.i64.wrap ((k : Int) + 1) = (k : Int) + 1 := IntWalk.i64_in _ ⟨by omega, by omega⟩
        by_cases hnx : k + 1 < ts.length
        · have hck : ¬ cap = k + 1 := by omega
          have hlo : (k : Int) + 1 ≤ ts.length := by omega
          have HLC : Hid (∀ W, Below w.heap.size w W → Calls Tryd.prog 42 #[.agg #[.int .i64 t.kind, .string ⟨t.text.toArray⟩, .int .i64 t.place, .bool t.behind], .slice (some ⟨g, (k + 1) * 4, none⟩) (ts.length - (k + 1)) (cap - (k + 1))] W
              fun e w' => e = .returned (.bool (Sc.leads t (ts.drop (k + 1)))) ∧ Below W.heap.size W w') := by
            intro W hW
            obtain ⟨g', e1, _, _, _, _, c0, c1, c2, c3⟩ := h.at (k + 1) hnx
            injection e1 with e1
            injection e1 with e1 _ _
            subst e1
            have cc := fun (a : Addr) (ha : a.block < w.heap.size) => hW.cell (p := a) ha
            have := leads_some t ts[k + 1] g ((k + 1) * 4) (ts.length - (k + 1)) (cap - (k + 1)) W (by omega) (by omega) (Nat.lt_of_lt_of_le hg4 hW.size) (HN.out _ (List.getElem_mem hnx))
              ((cc ⟨g, (k + 1) * 4, none⟩ hg4).trans c0) ((cc ⟨g, (k + 1) * 4 + 1, none⟩ hg4).trans c1) ((cc ⟨g, (k + 1) * 4 + 2, none⟩ hg4).trans c2) ((cc ⟨g, (k + 1) * 4 + 3, none⟩ hg4).trans c3)
            rw [List.drop_eq_getElem_cons hnx]
            exact this
          cases hlb : Sc.leads t (ts.drop (k + 1)) with
          | true =>
            rw [hlb] at HX HLC
            replace HX : Hid (LR = Sc.listsGo (ts.drop (k + 1)) st) := HX
            clear hlb
            go_wp2
            go_region_with (go_at_call 42; refine (HLC.out _ ?_).mono ?_; exact (hbel.alloc hbel.size _).drew; rintro e w2 ⟨rfl, hb2⟩; have hc2 : w2.cell? ⟨wr.heap.size, 2, none⟩ = some (.int .i64 t.place) := ((hb2.cell (p := ⟨wr.heap.size, 2, none⟩) (by simp)).trans (by simp)))
            all_goals
              have hbe : Below w.heap.size w w2 := ((hbel.alloc hbel.size _).drew).trans (hb2.mono (by have := hbel.size; simp; omega))
              have hst : OwnsI w2 w.heap.size (.slice oo st.length oc) st := owns_below (World.ownsRow.drew (World.ownsRow.alloc hown _)) hb2
              go_wp2
              go_roundw
              case rel => exact ⟨k + 1, st, by omega, by omega, by go_num, hst, hbe, HX⟩
              case measure => simp [intOf]; omega
          | false =>
            rw [hlb] at HX HLC
            replace HX : Hid (LR = (7, t.place)) := HX
            clear hlb
            go_wp2
            go_region_with (go_at_call 42; refine (HLC.out _ ?_).mono ?_; exact (hbel.alloc hbel.size _).drew; rintro e w2 ⟨rfl, hb2⟩; have hc2 : w2.cell? ⟨wr.heap.size, 2, none⟩ = some (.int .i64 t.place) := ((hb2.cell (p := ⟨wr.heap.size, 2, none⟩) (by simp)).trans (by simp)))
            all_goals
              go_wp2
              go_quiet (fail)
              go_wp2
              go_ret2
              exact ⟨by rw [HX.out]; rfl, below_drewN (((hbel.alloc hbel.size _).drew).trans (hb2.mono (by have := hbel.size; simp; omega))) _⟩
        · have hlo : (k : Int) + 1 ≤ ts.length := by omega
          have hlb : Sc.leads t (ts.drop (k + 1)) = false := by rw [List.drop_eq_nil_of_le (by omega)]; rfl
          rw [hlb] at HX
          replace HX : Hid (LR = (7, t.place)) := HX
          clear hlb
          by_cases hck : cap = k + 1
          · go_wp2
            go_region_with (go_at_call 42; refine (leads_nil t _ _ _ _ (by omega)).mono ?_; rintro e w2 ⟨rfl, hb2⟩; have hc2 : w2.cell? ⟨wr.heap.size, 2, none⟩ = some (.int .i64 t.place) := ((hb2.cell (p := ⟨wr.heap.size, 2, none⟩) (by simp)).trans (by simp)))
            all_goals
              go_wp2
              go_quiet (fail)
              go_wp2
              go_ret2
              exact ⟨by rw [HX.out]; rfl, below_drewN (((hbel.alloc hbel.size _).drew).trans (hb2.mono (by have := hbel.size; simp; omega))) _⟩
          · go_wp2
            go_region_with (go_at_call 42; refine (leads_nil t _ _ _ _ (by omega)).mono ?_; rintro e w2 ⟨rfl, hb2⟩; have hc2 : w2.cell? ⟨wr.heap.size, 2, none⟩ = some (.int .i64 t.place) := ((hb2.cell (p := ⟨wr.heap.size, 2, none⟩) (by simp)).trans (by simp)))
            all_goals
              go_wp2
              go_quiet (fail)
              go_wp2
              go_ret2
              exact ⟨by rw [HX.out]; rfl, below_drewN (((hbel.alloc hbel.size _).drew).trans (hb2.mono (by have := hbel.size; simp; omega))) _⟩
    · by_cases h0 : 0 < st.length
      · have HX : Hid (LR = (5, topP st)) := by
          unfold topP
          rw [HK.out, List.drop_eq_nil_of_le (by omega), Sc.listsGo]
          have hne : st ≠ [] := by intro x; rw [x] at h0; simp at h0
          rw [List.getLastD_eq_getLast?, List.getLast?_eq_some_getLast hne]; exact hide rfl
        obtain ⟨go, rfl, q1, q2, q3, q4, q5⟩ := hown.row h0
        go_wp2
        go_quiet (fail)
        go_wp2
        go_ret2
        exact ⟨by rw [HX.out]; rfl, below_drewN hbel _⟩
      · have HX : Hid (LR = (0, 0)) := by
          have hne : st = [] := List.eq_nil_of_length_eq_zero (by omega)
          rw [HK.out, List.drop_eq_nil_of_le (by omega), hne]; exact hide rfl
        go_wp2
        go_ret2
        exact ⟨by rw [HX.out]; rfl, hbel⟩
end Go.Proofs.YtoieklacpkahbaaDoor
