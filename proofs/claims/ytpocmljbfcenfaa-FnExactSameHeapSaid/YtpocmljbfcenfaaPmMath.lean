/-
  Cells that say the same: what a walk over pairs of words, each looked at once, finds out. Mathematics.
-/
import Derived.Test.YtpocmljbfcenfaaSmMath
import Derived.Test.YtpocmljbfcenfaaPmKey
namespace Go.Proofs.Ytpocmljbfcenfaa

/-- Which pairs a pair asks for, if it is the same as far as it tells itself. -/
def inner (x y : List Ce) (p : Pw) : Option (List Pw) :=
  if p.x.tag = 4 ∧ p.y.tag = 4 then (match x[p.x.num.toNat]?, y[p.y.num.toNat]? with
    | some a, some b => if a.kind = b.kind ∧ a.num = b.num then some [⟨a.a, b.a⟩, ⟨a.b, b.b⟩] else none
    | _, _ => none)
  else if p.x.tag = p.y.tag ∧ p.x.num = p.y.num then some [] else none
structure PmInv (x y : List Ce) (d u : Wd) (S O : List Pw) : Prop where
  forced : ∀ R, SmGood x y R → WW R d u → ∀ p ∈ S ++ O, WW R p.x p.y
  closed : ∀ p ∈ S, ∃ l, inner x y p = some l ∧ ∀ q ∈ l, q ∈ S ++ O
  root : (⟨d, u⟩ : Pw) ∈ S ++ O
  nodup : S.Nodup
theorem PmInv.start {x y : List Ce} {d u : Wd} : PmInv x y d u [] [⟨d, u⟩] :=
  ⟨fun R _ hw p hp => by
    obtain rfl : p = ⟨d, u⟩ := by simpa using hp
    exact hw, fun p hp => by simp at hp, by simp, by simp⟩
section
variable {x y : List Ce} {d u : Wd} {S O : List Pw} {p : Pw}
theorem PmInv.old (h : PmInv x y d u S (p :: O)) (hp : p ∈ S) : PmInv x y d u S O := by
  have sub : ∀ q, q ∈ S ++ p :: O → q ∈ S ++ O := fun q hq => by
    rcases List.mem_append.1 hq with hq | hq
    · exact List.mem_append_left _ hq
    · rcases List.mem_cons.1 hq with rfl | hq
      · exact List.mem_append_left _ hp
      · exact List.mem_append_right _ hq
  refine ⟨fun R hR hw q hq => h.forced R hR hw q ?_, fun q hq => ?_, sub _ h.root, h.nodup⟩
  · rcases List.mem_append.1 hq with hq | hq
    · exact List.mem_append_left _ hq
    · exact List.mem_append_right _ (List.mem_cons_of_mem _ hq)
  · obtain ⟨l, e, hl⟩ := h.closed q hq
    exact ⟨l, e, fun r hr => sub r (hl r hr)⟩
theorem PmInv.fail (h : PmInv x y d u S (p :: O)) (hn : inner x y p = none) : ¬ SameW x y d u := by
  rintro ⟨R, hR, hw⟩
  have hp := h.forced R hR hw p (by simp)
  obtain ⟨h1, h2, h3⟩ := hp
  unfold inner at hn
  split at hn
  · rename_i ht
    obtain ⟨a, b, ha, hb, hk, hnn, _⟩ := hR _ _ (h2 ht.1)
    rw [ha, hb] at hn
    simp only [hk, hnn, and_self, if_true] at hn
    cases hn
  · rename_i ht
    have h4 : p.x.tag ≠ 4 := fun e => ht ⟨e, h1 ▸ e⟩
    rw [if_pos ⟨h1, h3 h4⟩] at hn
    cases hn
theorem PmInv.step (h : PmInv x y d u S (p :: O)) (hp : p ∉ S) {l : List Pw} (hl : inner x y p = some l) : PmInv x y d u (p :: S) (O ++ l) := by
  have sub : ∀ q, q ∈ S ++ p :: O → q ∈ (p :: S) ++ (O ++ l) := fun q hq => by
    rcases List.mem_append.1 hq with hq | hq
    · exact List.mem_append_left _ (List.mem_cons_of_mem _ hq)
    · rcases List.mem_cons.1 hq with rfl | hq
      · exact List.mem_append_left _ List.mem_cons_self
      · exact List.mem_append_right _ (List.mem_append_left _ hq)
  refine ⟨fun R hR hw q hq => ?_, fun q hq => ?_, sub _ h.root, List.nodup_cons.2 ⟨hp, h.nodup⟩⟩
  · rcases List.mem_append.1 hq with hq | hq
    · rcases List.mem_cons.1 hq with rfl | hq
      · exact h.forced R hR hw _ (by simp)
      · exact h.forced R hR hw q (List.mem_append_left _ hq)
    · rcases List.mem_append.1 hq with hq | hq
      · exact h.forced R hR hw q (List.mem_append_right _ (List.mem_cons_of_mem _ hq))
      · obtain ⟨h1, h2, h3⟩ := h.forced R hR hw p (by simp)
        unfold inner at hl
        split at hl
        · rename_i ht
          obtain ⟨a, b, ha, hb, hk, hnn, wa, wb⟩ := hR _ _ (h2 ht.1)
          rw [ha, hb] at hl
          simp only [hk, hnn, and_self, if_true] at hl
          obtain rfl := Option.some.inj hl
          simp only [List.mem_cons, List.not_mem_nil, or_false] at hq
          rcases hq with rfl | rfl
          · exact wa
          · exact wb
        · split at hl
          · obtain rfl := Option.some.inj hl
            simp at hq
          · cases hl
  · rcases List.mem_cons.1 hq with rfl | hq
    · exact ⟨l, hl, fun r hr => List.mem_append_right _ (List.mem_append_right _ hr)⟩
    · obtain ⟨l', e, hl'⟩ := h.closed q hq
      exact ⟨l', e, fun r hr => sub r (hl' r hr)⟩
theorem PmInv.done (h : PmInv x y d u S []) : SameW x y d u := by
  refine ⟨fun a b => ∃ p ∈ S, p.x.tag = 4 ∧ p.y.tag = 4 ∧ p.x.num.toNat = a ∧ p.y.num.toNat = b, ?_, ?_⟩
  · have ww : ∀ q ∈ S, WW (fun a b => ∃ p ∈ S, p.x.tag = 4 ∧ p.y.tag = 4 ∧ p.x.num.toNat = a ∧ p.y.num.toNat = b) q.x q.y := fun q hq => by
      obtain ⟨l, e, _⟩ := h.closed q hq
      unfold inner at e
      split at e
      · rename_i ht
        exact ⟨ht.1.trans ht.2.symm, fun _ => ⟨q, hq, ht.1, ht.2, rfl, rfl⟩, fun h4 => absurd ht.1 h4⟩
      · split at e
        · rename_i hn ht
          exact ⟨ht.1, fun h4 => absurd ⟨h4, ht.1 ▸ h4⟩ hn, fun _ => ht.2⟩
        · cases e
    rintro a b ⟨p, hp, t1, t2, rfl, rfl⟩
    obtain ⟨l, e, hl⟩ := h.closed p hp
    rw [List.append_nil] at hl
    unfold inner at e
    rw [if_pos ⟨t1, t2⟩] at e
    split at e
    · rename_i a b ha hb
      split at e
      · rename_i hk
        obtain rfl := Option.some.inj e
        exact ⟨a, b, ha, hb, hk.1, hk.2, ww ⟨a.a, b.a⟩ (hl ⟨a.a, b.a⟩ (by simp)), ww ⟨a.b, b.b⟩ (hl ⟨a.b, b.b⟩ (by simp))⟩
      · cases e
    · cases e
  · have hr := h.root
    rw [List.append_nil] at hr
    obtain ⟨l, e, _⟩ := h.closed _ hr
    unfold inner at e
    split at e
    · rename_i ht
      exact ⟨ht.1.trans ht.2.symm, fun _ => ⟨⟨d, u⟩, hr, ht.1, ht.2, rfl, rfl⟩, fun h4 => absurd ht.1 h4⟩
    · split at e
      · rename_i hn ht
        exact ⟨ht.1, fun h4 => absurd ⟨h4, ht.1 ▸ h4⟩ hn, fun _ => ht.2⟩
      · cases e
end
/-- All words that there are. -/
def wordsL (x : List Ce) (d : Wd) : List Wd := d :: x.flatMap fun c => [c.a, c.b]
theorem wordsL_len (x : List Ce) (d : Wd) : (wordsL x d).length = 2 * x.length + 1 := by
  unfold wordsL
  rw [List.length_cons]
  suffices h : (x.flatMap fun c => [c.a, c.b]).length = 2 * x.length by omega
  induction x with
  | nil => rfl
  | cons c r ih =>
    rw [List.flatMap_cons, List.length_append, ih]
    simp only [List.length_cons, List.length_nil]
    omega
def pairsL (x y : List Ce) (d u : Wd) : List Pw := (wordsL x d).flatMap fun a => (wordsL y u).map fun b => ⟨a, b⟩
theorem pairsL_len (x y : List Ce) (d u : Wd) : (pairsL x y d u).length = (2 * x.length + 1) * (2 * y.length + 1) := by
  unfold pairsL
  rw [← wordsL_len x d, ← wordsL_len y u]
  generalize wordsL x d = l
  generalize wordsL y u = m
  induction l with
  | nil => simp
  | cons a r ih =>
    rw [List.flatMap_cons, List.length_append, ih, List.length_map, List.length_cons, Nat.succ_mul]
    omega
theorem pairsL_mem {x y : List Ce} {d u : Wd} {p : Pw} : p ∈ pairsL x y d u ↔ p.x ∈ wordsL x d ∧ p.y ∈ wordsL y u := by
  unfold pairsL
  rw [List.mem_flatMap]
  constructor
  · rintro ⟨a, ha, hp⟩
    obtain ⟨b, hb, rfl⟩ := List.mem_map.1 hp
    exact ⟨ha, hb⟩
  · rintro ⟨h1, h2⟩
    exact ⟨p.x, h1, List.mem_map.2 ⟨p.y, h2, rfl⟩⟩
theorem words_in {x : List Ce} {d : Wd} {c : Ce} (h : c ∈ x) : c.a ∈ wordsL x d ∧ c.b ∈ wordsL x d :=
  ⟨List.mem_cons_of_mem _ (List.mem_flatMap.2 ⟨c, h, by simp⟩), List.mem_cons_of_mem _ (List.mem_flatMap.2 ⟨c, h, by simp⟩)⟩
theorem inner_in {x y : List Ce} {d u : Wd} {p : Pw} {l : List Pw} (h : inner x y p = some l) : ∀ q ∈ l, q ∈ pairsL x y d u := by
  unfold inner at h
  split at h
  · split at h
    · rename_i a b ha hb
      split at h
      · obtain rfl := Option.some.inj h
        intro q hq
        have h1 := words_in (d := d) (List.mem_of_getElem? ha)
        have h2 := words_in (d := u) (List.mem_of_getElem? hb)
        simp only [List.mem_cons, List.not_mem_nil, or_false] at hq
        rcases hq with rfl | rfl
        · exact pairsL_mem.2 ⟨h1.1, h2.1⟩
        · exact pairsL_mem.2 ⟨h1.2, h2.2⟩
      · cases h
    · cases h
  · split at h
    · obtain rfl := Option.some.inj h
      intro q hq
      simp at hq
    · cases h
theorem inner_len {x y : List Ce} {p : Pw} {l : List Pw} (h : inner x y p = some l) : l.length ≤ 2 := by
  unfold inner at h
  split at h
  · split at h
    · split at h
      · obtain rfl := Option.some.inj h
        simp
      · cases h
    · cases h
  · split at h
    · obtain rfl := Option.some.inj h
      simp
    · cases h
open Classical in
theorem nodup_sub {α : Type} : ∀ (m l : List α), l.Nodup → (∀ a ∈ l, a ∈ m) → l.length ≤ m.length
  | [], l, _, h => by
    cases l with
    | nil => simp
    | cons a _ => exact absurd (h a (by simp)) (by simp)
  | b :: m, l, hd, h => by
    by_cases hb : b ∈ l
    · have h1 := nodup_sub m (l.erase b) (hd.erase b) (fun a ha => by
        have h2 := h a (List.mem_of_mem_erase ha)
        rcases List.mem_cons.1 h2 with rfl | h2
        · exact absurd ha (List.Nodup.not_mem_erase hd)
        · exact h2)
      rw [List.length_erase_of_mem hb] at h1
      simp only [List.length_cons]
      omega
    · have h1 := nodup_sub m l hd (fun a ha => by
        rcases List.mem_cons.1 (h a ha) with rfl | h2
        · exact absurd ha hb
        · exact h2)
      simp only [List.length_cons]
      omega
end Go.Proofs.Ytpocmljbfcenfaa
