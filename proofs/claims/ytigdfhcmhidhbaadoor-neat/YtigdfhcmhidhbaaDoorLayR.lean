/- Walks: the program's Format. -/
import Derived.Test.YtigdfhcmhidhbaaDoorLayQ
import Derived.Test.YtigdfhcmhidhbaaDoorPlainZ
import Derived.Test.YtigdfhcmhidhbaaDoorWalkH
namespace Go.Proofs.YtigdfhcmhidhbaaDoor
open Go.RowKit
namespace Sc
theorem cov_wt {l : List UInt8} {b : Nat} : ∀ (ts : List Tok) (a : Nat), Cov l ts a b → a ≤ l.length → wt ts + 2 * a ≤ 2 * l.length ∧ (∀ t ∈ ts, t.text.length ≤ l.length)
  | [], a, _, ha => by simp [wt]; omega
  | t :: ts, a, h, _ => by
    obtain ⟨p, h1, h2, h3, h4, _, h6⟩ := h
    have ih := cov_wt ts _ h6 h4
    have hab : a ≤ p := h2.1
    rw [wt]
    refine ⟨by omega, fun u hu => ?_⟩
    rcases List.mem_cons.1 hu with rfl | hu
    · omega
    · exact ih.2 u hu
theorem wt_erase : ∀ ts : List Tok, wt (ts.map erase) = wt ts
  | [] => rfl
  | t :: ts => by rw [List.map_cons, wt, wt, wt_erase ts]; rfl
theorem wt_len : ∀ ts : List Tok, ts.length ≤ wt ts
  | [] => Nat.le_refl _
  | t :: ts => by have := wt_len ts; rw [wt, List.length_cons]; omega
/-- What a text that is read has for tokens. -/
theorem scan_toks {l : List UInt8} {ts : List Tok} {pl : Int} (h : scanRes l = (ts, 0, pl)) : wt ts ≤ 8192 ∧ ts.length ≤ 4096 ∧ ∀ t ∈ ts, No10 t.text ∧ 0 < t.text.length ∧ t.text.length ≤ 4096 ∧ (t.kind = 3 → t.text = [41]) ∧ (t.kind ≠ 5 → t.behind = false) := by
  obtain ⟨h1, _, h3, _, _⟩ := scan_ok h
  have hg := scan_good h
  have e1 : (toksRes l).1 = ts := by rw [h3]
  have e2 : (toksRes l).2.1 = 0 := by rw [h3]
  have hc := toksRes_cov l e2
  rw [e1] at hc
  have hw := cov_wt ts 0 hc (by omega)
  have hl : 2 * ts.length ≤ wt ts := by
    have : ∀ us : List Tok, (∀ t ∈ us, 0 < t.text.length) → 2 * us.length ≤ wt us := by
      intro us
      induction us with
      | nil => intro _; simp [wt]
      | cons u us ih =>
        intro hu
        have := ih (fun t ht => hu t (List.mem_cons_of_mem _ ht))
        have := hu u (List.mem_cons_self ..)
        rw [wt, List.length_cons]; omega
    exact this ts (fun t ht => (hg t ht).2.1.1)
  refine ⟨by omega, by omega, fun t ht => ?_⟩
  have := hg t ht
  exact ⟨this.1.no10, this.2.1.1, by have := hw.2 t ht; omega, this.1.close, this.1.beh⟩
/-- Format, of a text and a width. -/
noncomputable def fmtD (l : List UInt8) (W : Int) : List UInt8 × Int × Int := if W < 1 ∨ 200 < W then ([], 10, 0) else fmtRes l W.toNat
end Sc

set_option maxHeartbeats 1000000 in
theorem readEls_any (es : List Sc.El) (hw : Sc.WFL es) (hT : TOk (Sc.toksL es)) (ts : List Sc.Tok) (htk : ts.map Sc.erase = Sc.toksL es) (g cap B0 : Nat) (w : World) (h : Owns w B0 (.slice (some ⟨g, 0, none⟩) ts.length cap) ts) (hn : ts.length ≤ 4096) :
    Calls Tryd.prog 31 #[.slice (some ⟨g, 0, none⟩) ts.length cap] w fun r w' => ∃ v, r = .returned v ∧ RowV (fun k => w.heap.size ≤ k) w' es.length v (ElsAt (fun k => w.heap.size ≤ k) w' es) ∧ Below w.heap.size w w' := by
  have hgl : g < w.heap.size := by
    rcases h.2 with ⟨hn, _⟩ | ⟨g', cap', cur, e1, hB, hgg, _⟩
    · cases hn
    · injection e1 with e1; injection e1 with e1; injection e1 with e1 _ _; subst e1; exact (Array.getElem?_eq_some_iff.1 hgg).1
  have HR := hide (elements_any es (reads_any es hw hT) hw w.heap.size g 0 ts cap B0 (w.alloc (.cells #[.slice (some ⟨g, 0, none⟩) ts.length cap] 90)) [] (h.below ((Below.refl _ _).alloc (Nat.le_refl _) _)) ⟨_, _, heap_alloc_new w _, fun _ => ⟨by simp, by simp⟩⟩ (by omega) hn (by simpa using htk) (fun c r h => by cases h))
  clear h hT hw htk
  go_enter Tryd.func31, Tryd.ntmps31
  go_wp2_with (go_at_call 46; refine HR.out.mono ?_; rintro e w1 ⟨v, rfl, hv, hr1, hf1⟩; obtain ⟨va, vc, rfl, -⟩ := hv.shape)
  go_ret
  refine ⟨_, rfl, hv.mono (fun k hk _ => ⟨by simp at hk; omega, rfl⟩) (fun cs hcs => ElsAt.mono (fun k hk _ => ⟨by simp at hk; omega, rfl⟩) _ _ hcs), ?_⟩
  exact ((Below.refl _ w).alloc (Nat.le_refl _) _).trans (hf1.below (Nat.le_refl _) (by simp))
end Go.Proofs.YtigdfhcmhidhbaaDoor
