/- Plain laws: tokens with other blanks between them are read as the same tokens. No program here. -/
import Derived.Test.YtigdfhcmhidhbaaDoorPlainU
namespace Go.Proofs.YtigdfhcmhidhbaaDoor
open Go.RowKit
namespace Sc
/-- A token as it is read. -/
structure Good (t : Tok) : Prop where
  no10 : No10 t.text
  head : ∃ c x, t.text = c :: x ∧ bl3 c = false
  close : t.kind = 3 → t.text = [41]
  self : ∀ r, Follows t.kind t.text r → readTok (t.text ++ r) = (t.kind, t.text.length, 0)
  beh : t.kind ≠ 5 → t.behind = false
theorem readTok_3 (c : UInt8) (t : List UInt8) : (readTok (c :: t)).1 = 3 → (c :: t).take (readTok (c :: t)).2.1 = [41] := by
  refine readTok_P (fun r => r.1 = 3 → (c :: t).take r.2.1 = [41]) (c :: t) ?_ ?_ ?_ ?_ ?_ ?_ ?_ ?_ ?_ ?_ ?_ ?_
  · intro _ h; simp at h
  · intro _ h; simp at h
  · intro _ h; simp at h
  · intro _ h; simp only [enK] at h; split at h <;> simp at h
  · intro _ h; simp at h
  · intro h _; have hc := (h0_iff c t 41).1 h; subst hc; rfl
  · intro _ h; simp at h
  · intro _ h; simp at h
  · intro _ _ h; simp at h
  · intro _ h; simp at h
  · intro _ h; simp only [enK] at h; split at h <;> simp at h
  · intro _ _ _ _ _ _ _ _ _ _ h; simp at h
theorem bl3_no {c : UInt8} (h : isBl c = false) (h10 : c ≠ 10) : bl3 c = false := by
  unfold isBl at h; unfold bl3; rw [h]; simp [h10]
theorem lineGo_good (l : List UInt8) (hno : No10 l) : ∀ (f a : Nat) (acc : List Tok), (∀ t ∈ acc, Good t) → (∀ h : a < l.length, isBl l[a] = false) → ∀ t ∈ (lineGo l f a acc).1, Good t := by
  intro f
  induction f with
  | zero => intro a acc h _ t ht; exact h t ht
  | succ f ih =>
    intro a acc h h4 t ht
    by_cases ha : l.length ≤ a
    · rw [lineGo_end _ _ _ _ ha] at ht; exact h t ht
    · by_cases he : (readTok (l.drop a)).2.2 = 0
      · rw [lineGo_on _ _ _ _ (by omega) he] at ht
        have hal : a < l.length := by omega
        have hd := List.drop_eq_getElem_cons hal
        have hok := readTok_ok l[a] (l.drop (a + 1)) (h4 hal)
        have hse := readTok_self l[a] (l.drop (a + 1)) (h4 hal)
        have h3 := readTok_3 l[a] (l.drop (a + 1))
        rw [← hd] at hok hse h3
        have hok := hok he
        have hse := hse he
        have hlen : ((l.drop a).take (readTok (l.drop a)).2.1).length = (readTok (l.drop a)).2.1 := by rw [List.length_take]; omega
        refine ih _ _ ?_ (fun h => skipB_at _ _ h) t ht
        intro x hx
        rcases List.mem_append.1 hx with hx | hx
        · exact h x hx
        · simp at hx; subst hx
          refine ⟨fun c hc => hno c (List.mem_of_mem_drop (List.mem_of_mem_take hc)), ⟨l[a], (l.drop (a + 1)).take ((readTok (l.drop a)).2.1 - 1), ?_, bl3_no (h4 hal) (hno _ (List.getElem_mem hal))⟩, h3, fun r hr => ?_, fun hk => ?_⟩
          · show (l.drop a).take (readTok (l.drop a)).2.1 = _
            obtain ⟨n, hn⟩ : ∃ n, (readTok (l.drop a)).2.1 = n + 1 := ⟨(readTok (l.drop a)).2.1 - 1, by omega⟩
            rw [hn, hd]; rfl
          · have := hse r hr
            show readTok ((l.drop a).take (readTok (l.drop a)).2.1 ++ r) = (_, ((l.drop a).take (readTok (l.drop a)).2.1).length, 0)
            rw [hlen]; exact this
          · have hk : (readTok (l.drop a)).1 ≠ 5 := hk
            simp [hk]
      · rw [lineGo_bad _ _ _ _ (by omega) (by omega) he] at ht; simp at ht
theorem Good.shift {t : Tok} (h : Good t) (b : Nat) : Good (shift b t) := ⟨h.no10, h.head, h.close, h.self, h.beh⟩
theorem toksGo_good : ∀ (ls : List (List UInt8)) (b : Nat) (acc : List Tok), (∀ l ∈ ls, No10 l) → (∀ t ∈ acc, Good t) → ∀ t ∈ (toksGo ls b acc).1, Good t := by
  intro ls
  induction ls with
  | nil => intro b acc _ h t ht; exact h t ht
  | cons l ls ih =>
    intro b acc hno h t ht
    rw [toksGo] at ht
    split at ht
    · refine ih _ _ (fun x hx => hno x (List.mem_cons_of_mem _ hx)) ?_ t ht
      intro x hx
      rcases List.mem_append.1 hx with hx | hx
      · exact h x hx
      · obtain ⟨y, hy, rfl⟩ := List.mem_map.1 hx
        exact (lineGo_good l (hno l (List.mem_cons_self ..)) _ _ _ (fun t ht => by simp at ht) (fun h => skipB_at _ _ h) y hy).shift b
    · simp at ht
theorem toksRes_good (l : List UInt8) : ∀ t ∈ (toksRes l).1, Good t := toksGo_good _ _ _ (lns_no10 l) (fun t ht => by simp at ht)

/-- Blanks and tokens, one behind the other. -/
def render : List (List UInt8 × Tok) → List UInt8 → List UInt8
  | [], tl => tl
  | (g, t) :: ps, tl => g ++ (t.text ++ render ps tl)
def placed : List (List UInt8 × Tok) → Nat → List Tok
  | [], _ => []
  | (g, t) :: ps, i => { t with place := (i + g.length : Nat) } :: placed ps (i + g.length + t.text.length)
/-- May t stand right behind p? -/
def Glue (p t : Tok) : Prop := (p.kind = 2 ∨ p.kind = 4 ∨ (p.kind ≠ 5 ∧ t.kind = 3)) ∧ (p.text = [44] → t.text.headD 0 ≠ 64)
def endK : Option Tok → Bool
  | none => false
  | some t => (t.kind == 1) || (t.kind == 3)
def Okp : Option Tok → List (List UInt8 × Tok) → List UInt8 → Prop
  | p, [], tl => (∀ c ∈ tl, bl3 c = true) ∧ (∀ q, p = some q → q.kind = 5 → tl = [] ∨ ∃ r, tl = 10 :: r)
  | p, (g, t) :: ps, tl => (∀ c ∈ g, bl3 c = true) ∧ Good t ∧ (∀ q, p = some q → (g = [] → Glue q t) ∧ (q.kind = 5 → ∃ r, g = 10 :: r)) ∧ (t.kind = 5 → t.behind = (!(g.contains 10) && endK p)) ∧ Okp (some t) ps tl

theorem tw_cons10 (r : List UInt8) : (10 :: r).takeWhile inLn = [] := rfl
theorem tw_consNo {c : UInt8} (h : c ≠ 10) (r : List UInt8) : (c :: r).takeWhile inLn = c :: r.takeWhile inLn := by
  rw [List.takeWhile_cons, if_pos (by simp [inLn, h])]
theorem bl3_cases {c : UInt8} (h : bl3 c = true) : c = 10 ∨ c = 32 ∨ c = 9 := by
  unfold bl3 at h; simp at h; rcases h with (h | h) | h
  · exact .inr (.inl h)
  · exact .inr (.inr h)
  · exact .inl h
theorem follows_blank (k : Int) (x : List UInt8) (c : UInt8) (r : List UInt8) (hc : bl3 c = true) (h5 : k = 5 → c = 10) : Follows k x ((c :: r).takeWhile inLn) := by
  rcases bl3_cases hc with rfl | rfl | rfl
  · exact ⟨fun _ => rfl, fun _ => .inl rfl, fun _ => by rw [tw_cons10]; decide⟩
  · exact ⟨fun h => absurd (h5 h) (by decide), fun _ => .inr (.inl rfl), fun _ => by rw [tw_consNo (by decide)]; simp⟩
  · exact ⟨fun h => absurd (h5 h) (by decide), fun _ => .inr (.inr (.inl rfl)), fun _ => by rw [tw_consNo (by decide)]; simp⟩
theorem follows_of {t : Tok} {ps : List (List UInt8 × Tok)} {tl : List UInt8} (h : Okp (some t) ps tl) : Follows t.kind t.text ((render ps tl).takeWhile inLn) := by
  cases ps with
  | nil =>
    obtain ⟨h1, h2⟩ := h
    cases tl with
    | nil => exact ⟨fun _ => rfl, fun _ => .inl rfl, fun _ => by decide⟩
    | cons c r =>
      refine follows_blank _ _ c r (h1 c (List.mem_cons_self ..)) (fun h5 => ?_)
      rcases h2 t rfl h5 with h | ⟨r', h⟩
      · cases h
      · injection h
  | cons q ps =>
    obtain ⟨g, u⟩ := q
    obtain ⟨h1, hu, h3, _, _⟩ := h
    obtain ⟨h3, h5⟩ := h3 t rfl
    cases g with
    | nil =>
      obtain ⟨hg, h44⟩ := h3 rfl
      obtain ⟨c, x, hx, hb⟩ := hu.head
      have hc10 : c ≠ 10 := hu.no10 c (by rw [hx]; exact List.mem_cons_self ..)
      have e : (render (([], u) :: ps) tl).takeWhile inLn = c :: (x ++ render ps tl).takeWhile inLn := by
        rw [render, hx, List.nil_append, List.cons_append, tw_consNo hc10]
      rw [e]
      refine ⟨fun h => ?_, fun h => ?_, fun h => ?_⟩
      · obtain ⟨r, hr⟩ := h5 h; cases hr
      · have h3 : u.kind = 3 := by rcases hg with hg | hg | hg <;> omega
        have := hu.close h3
        rw [hx] at this
        injection this with this
        exact .inr (.inr (.inr this))
      · have := h44 h
        rw [hx] at this; exact this
    | cons c r =>
      refine follows_blank _ _ c _ (h1 c (List.mem_cons_self ..)) (fun h => ?_)
      obtain ⟨r', hr⟩ := h5 h
      injection hr

/-- Nothing but blanks ahead, read from behind. -/
def alBr : List UInt8 → Bool
  | [] => true
  | c :: r => if c = 10 then true else if bl3 c then alBr r else false
theorem alB_alBr (T : List UInt8) : ∀ i, i ≤ T.length → alB T i = alBr (T.take i).reverse := by
  intro i
  induction i with
  | zero => intro _; rfl
  | succ i ih =>
    intro hi
    have hi' : i < T.length := by omega
    rw [alB, List.take_succ_eq_append_getElem hi', List.reverse_append, ih (by omega)]
    have : T.getD i 0 = T[i] := by rw [List.getD_eq_getElem?_getD, List.getElem?_eq_getElem hi']; rfl
    rw [this]; rfl
theorem alBr_10 : ∀ (g r : List UInt8), (∀ c ∈ g, bl3 c = true) → 10 ∈ g → alBr (g ++ r) = true := by
  intro g
  induction g with
  | nil => intro r _ h; simp at h
  | cons c g ih =>
    intro r hb h
    rw [List.cons_append, alBr]
    by_cases hc : c = 10
    · rw [if_pos hc]
    · rw [if_neg hc, if_pos (hb c (List.mem_cons_self ..))]
      refine ih r (fun x hx => hb x (List.mem_cons_of_mem _ hx)) ?_
      rcases List.mem_cons.1 h with h | h
      · exact absurd h.symm hc
      · exact h
theorem alBr_no : ∀ (g r : List UInt8), (∀ c ∈ g, bl3 c = true) → 10 ∉ g → alBr (g ++ r) = alBr r := by
  intro g
  induction g with
  | nil => intro r _ _; rfl
  | cons c g ih =>
    intro r hb h
    simp only [List.mem_cons, not_or] at h
    rw [List.cons_append, alBr, if_neg (Ne.symm h.1), if_pos (hb c (List.mem_cons_self ..))]
    exact ih r (fun x hx => hb x (List.mem_cons_of_mem _ hx)) h.2
theorem alBr_hit : ∀ (m r : List UInt8), No10 m → (∃ c ∈ m, bl3 c = false) → alBr (m ++ r) = false := by
  intro m
  induction m with
  | nil => intro r _ h; obtain ⟨c, hc, _⟩ := h; simp at hc
  | cons c m ih =>
    intro r hn h
    rw [List.cons_append, alBr, if_neg (hn c (List.mem_cons_self ..))]
    cases hb : bl3 c with
    | false => rfl
    | true =>
      simp only [if_true]
      refine ih r hn.tail ?_
      obtain ⟨d, hd, hf⟩ := h
      rcases List.mem_cons.1 hd with rfl | hd
      · rw [hb] at hf; cases hf
      · exact ⟨d, hd, hf⟩
theorem RState.blanks {T : List UInt8} {TR : List Tok × Int × Nat} {acc : List Tok} : ∀ (g R : List UInt8) (i : Nat), RState T TR i acc → T.drop i = g ++ R → (∀ c ∈ g, bl3 c = true) → RState T TR (i + g.length) acc := by
  intro g
  induction g with
  | nil => intro R i h _ _; exact h
  | cons c g ih =>
    intro R i h hd hb
    have hi : i < T.length := by
      have := congrArg List.length hd; simp at this; omega
    rw [List.drop_eq_getElem_cons hi] at hd
    injection hd with h1 h2
    have := h.blank hi (by rw [h1]; exact hb c (List.mem_cons_self ..))
    have := ih R (i + 1) this h2 (fun x hx => hb x (List.mem_cons_of_mem _ hx))
    rw [List.length_cons, show i + (g.length + 1) = i + 1 + g.length by omega]; exact this
theorem rescan_go (T : List UInt8) : ∀ (ps : List (List UInt8 × Tok)) (p : Option Tok) (i : Nat) (acc : List Tok) (tl : List UInt8), RState T (toksRes T) i acc → T.drop i = render ps tl →
    endsEl acc = endK p → (∀ q, p = some q → Good q ∧ ∃ A, T.take i = A ++ q.text) → Okp p ps tl → toksRes T = (acc ++ placed ps i, 0, 0) := by
  intro ps
  induction ps with
  | nil =>
    intro p i acc tl hS hd _ _ hO
    have := RState.blanks tl [] i hS (by rw [hd, render]; simp) hO.1
    have hle := this.le
    have hl := congrArg List.length hd
    have hS := hS.le
    simp [render] at hl
    rw [this.done (by omega)]; simp [placed]
  | cons q ps ih =>
    obtain ⟨g, t⟩ := q
    intro p i acc tl hS hd he hp hO
    have hil := hS.le
    obtain ⟨hg, ht, hgl, hbe, hO⟩ := hO
    rw [render] at hd
    have hS := RState.blanks g _ i hS hd hg
    have hd2 : T.drop (i + g.length) = t.text ++ render ps tl := by
      rw [← List.drop_drop, hd, List.drop_left]
    have htk : T.take (i + g.length) = T.take i ++ g := by
      rw [List.take_add, hd, List.take_left]
    generalize hi' : i + g.length = i' at hS hd2 htk
    obtain ⟨c, x, hx, hcb⟩ := ht.head
    have hil' : i' < T.length := by
      have := congrArg List.length hd2; rw [hx] at this; simp at this; omega
    have hTi : T[i'] = c := by
      have := List.drop_eq_getElem_cons hil'
      rw [this, hx, List.cons_append] at hd2
      injection hd2
    obtain ⟨t', suf, s1, s2, s3, s4, s5⟩ := hS.step hil' (by rw [hTi]; exact hcb)
    have hf := follows_of hO
    have hline : T[i'] :: t' = t.text ++ (render ps tl).takeWhile inLn := by
      have h1 : (T.drop i').takeWhile inLn = T[i'] :: t' := by
        rw [s1, takeWhile_line inLn (fun _ => true) rfl (fun c hc => by simp [inLn, hc]) _ suf s3 s2, tw_true]
      rw [← h1, hd2, List.takeWhile_append_of_pos (fun a ha => by simp [inLn, ht.no10 a ha])]
    have hr := ht.self _ hf
    rw [← hline] at hr
    obtain ⟨h1, h2, h3, h4, h5⟩ := (s5 _ _ _ hr).2 rfl
    have hx1 : (T[i'] :: t').take t.text.length = t.text := by rw [hline, List.take_left]
    have hx2 : (if t.kind = 5 then i' + (T[i'] :: t').length else i' + t.text.length) = i' + t.text.length := by
      split
      · rename_i hk
        rw [hline, hf.1 hk, List.append_nil]
      · rfl
    have hx3 : ((t.kind == 5) && (!(alB T i') && endsEl acc)) = t.behind := by
      by_cases hk : t.kind = 5
      · rw [hbe hk, he]
        cases hp2 : endK p with
        | false => simp
        | true =>
          cases p with
          | none => cases hp2
          | some q =>
            obtain ⟨hq, A, hA⟩ := hp q rfl
            rw [alB_alBr T i' (by omega), htk, hA]
            simp only [List.reverse_append]
            have hgr : ∀ c ∈ g.reverse, bl3 c = true := fun c hc => hg c (List.mem_reverse.1 hc)
            by_cases h10 : (10 : UInt8) ∈ g
            · rw [alBr_10 _ _ hgr (List.mem_reverse.2 h10)]
              simp [h10]
            · rw [alBr_no _ _ hgr (fun h => h10 (List.mem_reverse.1 h)), alBr_hit _ _ (fun c hc => hq.no10 c (List.mem_reverse.1 hc))]
              · simp [hk, h10]
              · obtain ⟨c, x, hx, hb⟩ := hq.head
                exact ⟨c, by rw [hx]; simp, hb⟩
      · rw [ht.beh hk]; simp [hk]
    rw [hx1, hx2, hx3] at h4
    have := ih (some t) _ _ tl h4 (by rw [← List.drop_drop, hd2, List.drop_left]) (by unfold endsEl endK; simp) (fun q hq => by
      injection hq with hq; subst hq
      refine ⟨ht, T.take i', ?_⟩
      rw [List.take_add, hd2, List.take_left]) hO
    rw [this, placed, hi']
    simp
/-- Tokens with other blanks between them are read as the same tokens. -/
theorem rescan (ps : List (List UInt8 × Tok)) (tl : List UInt8) (h : Okp none ps tl) : toksRes (render ps tl) = (placed ps 0, 0, 0) := by
  have := rescan_go (render ps tl) ps none 0 [] tl (RState.start _) rfl rfl (fun q hq => by cases hq) h
  simpa using this
end Sc
end Go.Proofs.YtigdfhcmhidhbaaDoor
