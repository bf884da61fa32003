/- A law on append: what lay in the row lies there still. No dump here. -/
import Derived.WalkKit
import Derived.Maps.AppendAt
namespace Go.Proofs.YtoieklacpkahbaaDoor
open Go.RowKit

theorem wpList_append_keep {P : Program} (w : World) {ops : Array Oper} {rest : List Oper} {o : Oper} {a : Act} {Q : Exit → Act → World → Prop} (hgd : o.guard = none) (s x : Operand) (t : TypeId)
    (ho : o.op = .call { callee := .builtin .append, args := #[s, x], argTypes := #[t, t] })
    (base : Nat) (e : TypeId) (i : TypeInfo) (z : Value) (size bytes : Nat) (ht : P.underlying t = some (.slice e)) (hi : P.info? e = some i) (hz : i.zero = some z)
    (hsize : i.size = size) (hby : i.bytes = bytes) (hzs : z.cells.size = size) (hsz : 0 < size)
    (v : Value) (n : Nat) (xs : List Value) (hs : a.eval s = v) (hown : w.ownsRow base e size v n xs)
    (ad : Addr) (m c : Nat) (news : List Value) (hx : a.eval x = .slice (some ad) m c) (hl : news.length = m * size) (hnews : ∀ j u, news[j]? = some u → w.cell? (ad.add j) = some u) (h1 : ∀ u ∈ news, u.oneCell' = true)
    (h63 : n + m ≤ maxLen) (hbytes : (n + m) * bytes ≤ 140737488355328) (hbase : base ≤ w.heap.size)
    (h : ∀ v' w', w'.ownsRow base e size v' (n + m) (xs ++ news) → w.grownBy w' v.ownBlock → (v'.ownBlock = v.ownBlock ∨ ∃ g, v'.ownBlock = some g ∧ w.heap.size ≤ g) →
      (∀ g j, v.ownBlock = some g → j < n * size → w'.cell? ⟨g, j, none⟩ = w.cell? ⟨g, j, none⟩) → (∀ g, v.ownBlock = some g → ∃ cur, w'.heap[g]? = some (.cells cur e (0, 0))) → wpList P ops Q rest (a.put o.dst v') w') :
    wpList P ops Q (o :: rest) a w := by
  rcases hown.2 with ⟨rfl, rfl⟩ | ⟨g, cap, cur, rfl, hbg, hg, hnc, hcm, hcs, htake⟩
  · refine wpList_append_own_at w hgd s x t ho base e i z size bytes ht hi hz hsize hby hzs hsz _ 0 xs hs hown ad m c news hx hl hnews h1 h63 hbytes hbase ?_
    intro v' w' h2 h3 _ h5
    refine h v' w' h2 h3 (h5.imp id fun h6 => ⟨_, h6, Nat.le_refl _⟩) (fun g j hg _ => by simp [Value.ownBlock] at hg) (fun g hg => by simp [Value.ownBlock] at hg)
  · by_cases hroom : n + m ≤ cap
    · refine wpList_append_fits w hgd s x t ho base e i size ht hi hsize g n cap xs hs hown ad m c news hx hl hnews h1 hroom ?_
      intro w' h2 h3
      refine h _ w' h2 h3 (.inl rfl) (fun g' j hg' hj => ?_) (fun g' hg' => ?_)
      · obtain rfl : g = g' := by simpa [Value.ownBlock] using hg'
        have hj' : j < (n + m) * size := Nat.lt_of_lt_of_le hj (Nat.mul_le_mul_right _ (by omega))
        rw [World.ownsRow.cellAt h2 j hj', World.ownsRow.cellAt hown j hj, List.getElem?_append_left (by rw [hown.1]; exact hj)]
      · obtain rfl : g = g' := by simpa [Value.ownBlock] using hg'
        rcases h2.2 with ⟨h4, _⟩ | ⟨g2, _, cur2, h4, _, h5, _⟩
        · cases h4
        · injection h4 with h4; injection h4 with h4; injection h4 with h4 _ _; subst h4; exact ⟨cur2, h5⟩
    · refine wpList_append_grows w hgd s x t ho e i z size bytes ht hi hz hsize hby hzs hsz (some ⟨g, 0, none⟩) n cap xs hs (fun h => by cases h) hown.1
        (fun b hb j u hj => by cases hb; exact hown.cells (g := g) rfl j u hj) ad m c news hx hl hnews h1 (by omega) h63 hbytes ?_
      intro v' w' h2 h3
      have hlt : g < w.heap.size := (Array.getElem?_eq_some_iff.1 hg).1
      have h2' : w'.ownsRow base e size v' (n + m) (xs ++ news) := by
        refine ⟨h2.1, ?_⟩
        rcases h2.2 with hn | ⟨g2, c2, cur2, e1, e2, e3⟩
        · exact .inl hn
        · exact .inr ⟨g2, c2, cur2, e1, by omega, e3⟩
      refine h v' w' h2' ⟨h3.os, h3.tape, h3.output, h3.size, fun k hk _ => h3.block k hk (by simp)⟩ ?_ (fun g' j hg' _ => ?_) (fun g' hg' => ?_)
      · rcases h2.2 with ⟨e1, e2⟩ | ⟨g2, c2, cur2, e1, e2, _⟩
        · omega
        · exact .inr ⟨g2, by rw [e1]; rfl, e2⟩
      · obtain rfl : g = g' := by simpa [Value.ownBlock] using hg'
        exact World.cell?_of_block (h3.block g hlt (by simp))
      · obtain rfl : g = g' := by simpa [Value.ownBlock] using hg'
        exact ⟨cur, by rw [h3.block g hlt (by simp)]; exact hg⟩
end Go.Proofs.YtoieklacpkahbaaDoor
