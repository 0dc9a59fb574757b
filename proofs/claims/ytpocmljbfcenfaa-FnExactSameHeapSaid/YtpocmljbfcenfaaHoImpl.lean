/-
  What is asked of words and cells, as plain mathematics; the program's wordOk, leadsTo, isNoneOr, cellOk.
-/
import Derived.Test.YtpocmljbfcenfaaCeData
namespace Go.Proofs.Ytpocmljbfcenfaa
open Go.RowKit

/-- A word that is ok where there are n cells. -/
def wordP (n : Nat) (t u : Int) : Prop := (t = 0 ∧ u = 0) ∨ (t = 1 ∧ -2147483648 ≤ u ∧ u ≤ 2147483647) ∨ (t = 2 ∧ 0 ≤ u ∧ u ≤ 1) ∨ (t = 3 ∧ 0 ≤ u ∧ u < 6) ∨ (t = 4 ∧ 0 ≤ u ∧ u < n)
instance (n : Nat) (t u : Int) : Decidable (wordP n t u) := by unfold wordP; infer_instance
/-- The kind of a cell. -/
def kindAt (cs : List Ce) (u : Int) : Option Int := (cs[u.toNat]?).map (·.kind)
/-- A word is nothing, or leads to a cell of a kind. -/
def isP (cs : List Ce) (t u k : Int) : Prop := t = 0 ∨ (t = 4 ∧ kindAt cs u = some k)
instance (cs : List Ce) (t u k : Int) : Decidable (isP cs t u k) := by unfold isP; infer_instance
/-- A cell that is ok among cells. -/
def cellQ (cs : List Ce) (k n at' an bt bn : Int) : Prop :=
  wordP cs.length at' an ∧ wordP cs.length bt bn ∧ ((k = 1 ∧ n = 0) ∨ (k = 2 ∧ n = 0 ∧ isP cs bt bn 2) ∨ (k = 3 ∧ n = 0 ∧ isP cs bt bn 3) ∨
    ((k = 4 ∨ k = 5) ∧ (0 ≤ n ∧ n < 200) ∧ (at' = 0 ∧ an = 0) ∧ isP cs bt bn 3))
instance (cs : List Ce) (k n at' an bt bn : Int) : Decidable (cellQ cs k n at' an bt bn) := by unfold cellQ; infer_instance
abbrev cellP (cs : List Ce) (c : Ce) : Prop := cellQ cs c.kind c.num c.a.tag c.a.num c.b.tag c.b.num
/-- Cells that are ok. -/
def heapM (cs : List Ce) : Bool := decide (cs.length ≤ 120) && cs.all fun c => decide (cellP cs c)

theorem ret_of {b b' : Bool} (h : b = b') : Ending.returned (.bool b) = Ending.returned (.bool b') := by rw [h]
theorem ret_dec {P : Prop} [Decidable P] {b : Bool} (h1 : P → b = true) (h2 : ¬ P → b = false) : Ending.returned (.bool b) = Ending.returned (.bool (decide P)) := by
  by_cases h : P
  · rw [h1 h, decide_eq_true h]
  · rw [h2 h, decide_eq_false h]
theorem tag_ways (t : Int) : t = 0 ∨ t = 1 ∨ t = 2 ∨ t = 3 ∨ t = 4 ∨ t < 0 ∨ 4 < t := by omega
theorem in_ways (u lo hi : Int) : (lo ≤ u ∧ u ≤ hi) ∨ u < lo ∨ hi < u := by omega

set_option maxHeartbeats 1000000 in
theorem impl_wordOk (a : Option Addr) (n cap : Nat) (hn : n ≤ 9223372036854775807) (t u : Int) (w : World) :
    Calls Try.prog 15 #[.slice a n cap, .agg #[.int .i64 t, .int .i64 u]] w fun r w' => r = .returned (.bool (decide (wordP n t u))) ∧ Below w.heap.size w w' := by
  rcases tag_ways t with rfl | rfl | rfl | rfl | rfl | h | h
  · rcases in_ways u 0 0 with ⟨h, h'⟩ | h | h
    all_goals
      go_enter Try.func15, Try.ntmps15
      go_wp2_with fail
      go_ret
      exact ⟨ret_dec (fun hp => by unfold wordP at hp; first | rfl | (simp; omega) | (exfalso; omega)) (fun hp => by unfold wordP at hp; first | rfl | (simp; omega) | (exfalso; omega)), (Below.refl _ _).alloc (Nat.le_refl _) _⟩
  · rcases in_ways u (-2147483648) 2147483647 with ⟨h, h'⟩ | h | h
    all_goals
      go_enter Try.func15, Try.ntmps15
      go_wp2_with fail
      go_ret
      exact ⟨ret_dec (fun hp => by unfold wordP at hp; first | rfl | (simp; omega) | (exfalso; omega)) (fun hp => by unfold wordP at hp; first | rfl | (simp; omega) | (exfalso; omega)), (Below.refl _ _).alloc (Nat.le_refl _) _⟩
  · rcases (by omega : u = 0 ∨ u = 1 ∨ u < 0 ∨ 1 < u) with h | h | h | h
    all_goals
      go_enter Try.func15, Try.ntmps15
      go_wp2_with fail
      go_ret
      exact ⟨ret_dec (fun hp => by unfold wordP at hp; first | rfl | (simp; omega) | (exfalso; omega)) (fun hp => by unfold wordP at hp; first | rfl | (simp; omega) | (exfalso; omega)), (Below.refl _ _).alloc (Nat.le_refl _) _⟩
  · rcases in_ways u 0 5 with ⟨h, h'⟩ | h | h
    all_goals
      go_enter Try.func15, Try.ntmps15
      go_wp2_with fail
      go_ret
      exact ⟨ret_dec (fun hp => by unfold wordP at hp; first | rfl | (simp; omega) | (exfalso; omega)) (fun hp => by unfold wordP at hp; first | rfl | (simp; omega) | (exfalso; omega)), (Below.refl _ _).alloc (Nat.le_refl _) _⟩
  · rcases in_ways u 0 (n - 1) with ⟨h, h'⟩ | h | h
    all_goals
      go_enter Try.func15, Try.ntmps15
      go_wp2_with fail
      go_ret
      exact ⟨ret_dec (fun hp => by unfold wordP at hp; first | rfl | (simp; omega) | (exfalso; omega)) (fun hp => by unfold wordP at hp; first | rfl | (simp; omega) | (exfalso; omega)), (Below.refl _ _).alloc (Nat.le_refl _) _⟩
  · skip
    all_goals
      go_enter Try.func15, Try.ntmps15
      go_wp2_with fail
      go_ret
      exact ⟨ret_dec (fun hp => by unfold wordP at hp; first | rfl | (simp; omega) | (exfalso; omega)) (fun hp => by unfold wordP at hp; first | rfl | (simp; omega) | (exfalso; omega)), (Below.refl _ _).alloc (Nat.le_refl _) _⟩
  · skip
    all_goals
      go_enter Try.func15, Try.ntmps15
      go_wp2_with fail
      go_ret
      exact ⟨ret_dec (fun hp => by unfold wordP at hp; first | rfl | (simp; omega) | (exfalso; omega)) (fun hp => by unfold wordP at hp; first | rfl | (simp; omega) | (exfalso; omega)), (Below.refl _ _).alloc (Nat.le_refl _) _⟩

/-- A word that leads to a cell: that cell's kind lies there. -/
theorem kind_at {w : World} {S : Nat → Prop} {cs : List Ce} {a : Option Addr} {m cap : Nat} {u : Int} (hv : Cells w S cs (.slice a m cap)) (h0 : 0 ≤ u) (h1 : u < cs.length) : ∃ (i b off : Nat) (k' : Int), u = i ∧ i < cs.length ∧ S b ∧ a = some ⟨b, off, none⟩ ∧ kindAt cs u = some k' ∧ w.cell? ⟨b, off + i * 6, none⟩ = some (.int .i64 k') := by
  obtain ⟨i, rfl⟩ := Int.eq_ofNat_of_zero_le h0
  have hi : i < cs.length := by omega
  obtain ⟨b, off, hS, rfl, hr⟩ := hv.at i hi
  exact ⟨i, b, off, cs[i].kind, rfl, hi, hS, rfl, by simp [kindAt, hi], (Ce.six hr).1⟩

set_option maxHeartbeats 1000000 in
theorem impl_leadsTo (cs : List Ce) (_hn : cs.length ≤ 9223372036854775807) (v : Value) (t u k : Int) (w : World) (hv : Cells w (· < w.heap.size) cs v) (ho : wordP cs.length t u) :
    Calls Try.prog 27 #[v, .agg #[.int .i64 t, .int .i64 u], .int .i64 k] w fun r w' => r = .returned (.bool (decide (t = 4 ∧ kindAt cs u = some k))) ∧ Below w.heap.size w w' := by
  obtain ⟨a, cap, rfl⟩ := hv.slice
  by_cases ht : t = 4
  · subst ht
    obtain ⟨i, b, off, k', rfl, hi, hS, rfl, hk, hc⟩ := kind_at hv (u := u) (by unfold wordP at ho; omega) (by unfold wordP at ho; omega)
    clear ho
    have hneb : b ≠ w.heap.size := by omega
    rw [hk]
    have hii : (i : Int) < (cs.length : Int) := by omega
    by_cases hkk : k' = k
    · subst hkk
      go_enter Try.func27, Try.ntmps27
      go_wp2_with fail
      go_ret
      exact ⟨ret_of (by simp), (Below.refl _ _).alloc (Nat.le_refl _) _⟩
    · go_enter Try.func27, Try.ntmps27
      go_wp2_with fail
      go_ret
      exact ⟨ret_of (by simp [hkk]), (Below.refl _ _).alloc (Nat.le_refl _) _⟩
  · go_enter Try.func27, Try.ntmps27
    go_wp2_with fail
    go_ret
    exact ⟨ret_of (by simp [ht]), (Below.refl _ _).alloc (Nat.le_refl _) _⟩

set_option maxHeartbeats 1000000 in
theorem impl_isNoneOr (cs : List Ce) (hn : cs.length ≤ 9223372036854775807) (v : Value) (t u k : Int) (w : World) (hv : Cells w (· < w.heap.size) cs v) (ho : wordP cs.length t u) :
    Calls Try.prog 26 #[v, .agg #[.int .i64 t, .int .i64 u], .int .i64 k] w fun r w' => r = .returned (.bool (decide (isP cs t u k))) ∧ Below w.heap.size w w' := by
  by_cases ht : t = 0
  · subst ht
    go_enter Try.func26, Try.ntmps26
    go_wp2_with fail
    go_ret
    exact ⟨ret_of (by simp [isP]), (Below.refl _ _).alloc (Nat.le_refl _) _⟩
  · have hl := fun o => impl_leadsTo cs hn v t u k (w.alloc o) (hv.keep ((Below.refl _ _).alloc (Nat.le_refl _) o) (by simp)) ho
    go_enter Try.func26, Try.ntmps26
    go_wp2_with (go_at_call 27; refine (hl _).mono ?_; rintro r w2 ⟨rfl, hb2⟩)
    go_ret
    exact ⟨ret_of (by simp [isP, ht]), ((Below.refl _ _).alloc (Nat.le_refl _) _).trans (hb2.mono (by simp))⟩

theorem impl_wordOk_yes (a : Option Addr) (n cap : Nat) (hn : n ≤ 9223372036854775807) (t u : Int) (w : World) (h : wordP n t u) :
    Calls Try.prog 15 #[.slice a n cap, .agg #[.int .i64 t, .int .i64 u]] w fun r w' => r = .returned (.bool true) ∧ Below w.heap.size w w' :=
  (impl_wordOk a n cap hn t u w).mono fun r w' ⟨h1, h2⟩ => ⟨by rw [h1, decide_eq_true h], h2⟩
theorem impl_wordOk_no (a : Option Addr) (n cap : Nat) (hn : n ≤ 9223372036854775807) (t u : Int) (w : World) (h : ¬ wordP n t u) :
    Calls Try.prog 15 #[.slice a n cap, .agg #[.int .i64 t, .int .i64 u]] w fun r w' => r = .returned (.bool false) ∧ Below w.heap.size w w' :=
  (impl_wordOk a n cap hn t u w).mono fun r w' ⟨h1, h2⟩ => ⟨by rw [h1, decide_eq_false h], h2⟩

/-- A box of a cell stands at the end of w, and w' came of that. -/
def BoxC (w w' : World) (T : TypeId) (k n at' an bt bn : Int) : Prop := Below (w.heap.size + 1) (w.alloc (.cells #[.int .i64 k, .int .i64 n, .int .i64 at', .int .i64 an, .int .i64 bt, .int .i64 bn] T)) w'
section
variable {w w' w2 : World} {T : TypeId} {k n at' an bt bn : Int}
theorem BoxC.start (h : Below (w.alloc (.cells #[.int .i64 k, .int .i64 n, .int .i64 at', .int .i64 an, .int .i64 bt, .int .i64 bn] T)).heap.size (w.alloc (.cells #[.int .i64 k, .int .i64 n, .int .i64 at', .int .i64 an, .int .i64 bt, .int .i64 bn] T)) w') : BoxC w w' T k n at' an bt bn := by
  unfold BoxC; simpa using h
theorem BoxC.size (h : BoxC w w' T k n at' an bt bn) : w.heap.size + 1 ≤ w'.heap.size := by
  have := Below.size h; simpa using this
theorem BoxC.next (h : BoxC w w' T k n at' an bt bn) (hb : Below w'.heap.size w' w2) : BoxC w w2 T k n at' an bt bn := Below.trans h (hb.mono h.size)
theorem BoxC.below (h : BoxC w w' T k n at' an bt bn) : Below w.heap.size w w' := ((Below.refl _ _).alloc (Nat.le_refl _) _).trans (Below.mono h (Nat.le_succ _))
theorem BoxC.six (h : BoxC w w' T k n at' an bt bn) : w'.cell? ⟨w.heap.size, 0, none⟩ = some (.int .i64 k) ∧ w'.cell? ⟨w.heap.size, 1, none⟩ = some (.int .i64 n) ∧ w'.cell? ⟨w.heap.size, 2, none⟩ = some (.int .i64 at') ∧ w'.cell? ⟨w.heap.size, 3, none⟩ = some (.int .i64 an) ∧ w'.cell? ⟨w.heap.size, 4, none⟩ = some (.int .i64 bt) ∧ w'.cell? ⟨w.heap.size, 5, none⟩ = some (.int .i64 bn) := by
  have hc : ∀ j, w'.cell? ⟨w.heap.size, j, none⟩ = (w.alloc (.cells #[.int .i64 k, .int .i64 n, .int .i64 at', .int .i64 an, .int .i64 bt, .int .i64 bn] T)).cell? ⟨w.heap.size, j, none⟩ := fun j => Below.cell h (p := ⟨w.heap.size, j, none⟩) (by dsimp only; omega)
  simp only [hc]
  refine ⟨?_, ?_, ?_, ?_, ?_, ?_⟩ <;> simp [go_sem]
theorem BoxC.row {cs : List Ce} {v : Value} (h : BoxC w w' T k n at' an bt bn) (hv : Cells w (· < w.heap.size) cs v) : Cells w' (· < w'.heap.size) cs v := RowOf.keep hv h.below h.below.size
end
end Go.Proofs.Ytpocmljbfcenfaa
