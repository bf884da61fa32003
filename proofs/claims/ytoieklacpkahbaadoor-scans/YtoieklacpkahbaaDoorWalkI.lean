/- Walks: reads. -/
import Derived.Test.YtoieklacpkahbaaDoorWalkH
namespace Go.Proofs.YtoieklacpkahbaaDoor
open Go.RowKit

theorem reads_res : Sc.scanRes [40, 97, 32, 39, 98, 41, 32, 59, 32, 99, 32] = ([⟨2, [40], 0, false⟩, ⟨1, [97], 1, false⟩, ⟨4, [39], 3, false⟩, ⟨1, [98], 4, false⟩, ⟨3, [41], 5, false⟩, ⟨5, [59, 32, 99], 7, true⟩], 0, 0) := by
  kernel_rfl

set_option maxRecDepth 20000 in
set_option maxHeartbeats 400000 in
theorem reads_any (w : World) (m : Int) (hm : w.cell? ⟨0, 0, none⟩ = some (.int .i64 m)) :
    Calls Tryd.prog 15 #[] w fun e w' => e = .returned (.bool true) ∧ Below w.heap.size w w' := by
  have HS : Hid (∀ W, W.cell? ⟨0, 0, none⟩ = some (.int .i64 m) → Calls Tryd.prog 11 #[.string ⟨#[40, 97, 32, 39, 98, 41, 32, 59, 32, 99, 32]⟩] W fun e w' => ∃ g cap, e = .returned (.tuple #[.slice (some ⟨g, 0, none⟩) 6 cap, .int .i64 0, .int .i64 0]) ∧
      w'.cell? ⟨g, 20, none⟩ = some (.int .i64 5) ∧ w'.cell? ⟨g, 21, none⟩ = some (.string ⟨#[59, 32, 99]⟩) ∧ w'.cell? ⟨g, 22, none⟩ = some (.int .i64 7) ∧ w'.cell? ⟨g, 23, none⟩ = some (.bool true) ∧ Below W.heap.size W w' ∧ 6 ≤ cap) := by
    intro W hW
    refine (scan_any ⟨#[40, 97, 32, 39, 98, 41, 32, 59, 32, 99, 32]⟩ W (by decide) m hW _ reads_res).mono ?_
    rintro e w' ⟨v, rfl, hown, hb, _⟩
    obtain ⟨ao, cap, rfl⟩ := hown.shape
    obtain ⟨g, h1, _, _, _, h5, c0, c1, c2, c3⟩ := hown.at 5 (by decide)
    subst h1
    exact ⟨g, cap, rfl, c0, c1, c2, c3, hb, h5⟩
  go_enter Tryd.func15, Tryd.ntmps15
  go_wp2_with (go_at_call 11; refine (HS.out _ hm).mono ?_; rintro e w1 ⟨g, cap, rfl, c0, c1, c2, c3, hb, h6⟩)
  go_ret
  exact ⟨rfl, hb⟩
end Go.Proofs.YtoieklacpkahbaaDoor
