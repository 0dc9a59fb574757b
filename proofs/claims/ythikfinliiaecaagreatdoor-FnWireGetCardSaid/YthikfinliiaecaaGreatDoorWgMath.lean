/-
  Cells and a word as they are read, by the one and the other. Mathematics; no program is named here.
-/
import Derived.Test.YthikfinliiaecaaGreatDoorFgAll34
import Derived.Test.YthikfinliiaecaaGreatDoorFgAll31
import Derived.Lib.SplitLaws
namespace Go.Proofs.YthikfinliiaecaaGreatDoor
open Go.RowKit

/-! ### Texts -/
theorem pre_one (d c : UInt8) (l : List UInt8) : ([d] : List UInt8).isPrefixOf (c :: l) = (d == c) := by
  simp [List.isPrefixOf]
theorem index_hit (d : UInt8) : ∀ (p q : List UInt8), d ∉ p → Lib.index (p ++ d :: q) [d] = (p.length : Int)
  | [], q, _ => by
    rw [List.nil_append, Lib.index, pre_one]
    simp
  | c :: p, q, h => by
    have h1 : ¬ ((d == c) = true) := by
      intro e
      exact h (by rw [beq_iff_eq] at e; rw [e]; simp)
    have h2 := index_hit d p q (fun e => h (by simp [e]))
    rw [List.cons_append, Lib.index, pre_one, if_neg h1, h2, if_neg (by rw [beq_iff_eq]; omega), List.length_cons]
    omega
theorem index_miss (d : UInt8) : ∀ (p : List UInt8), d ∉ p → Lib.index p [d] = -1
  | [], _ => by simp [Lib.index]
  | c :: p, h => by
    have h1 : ¬ ((d == c) = true) := by
      intro e
      exact h (by rw [beq_iff_eq] at e; rw [e]; simp)
    rw [Lib.index, pre_one, if_neg h1, index_miss d p (fun e => h (by simp [e]))]
    rfl
theorem cut_hit {d : UInt8} {p : List UInt8} (q : List UInt8) (h : d ∉ p) : Lib.cut (p ++ d :: q) [d] = (p, q, true) := by
  unfold Lib.cut
  rw [index_hit d p q h, if_pos (Int.natCast_nonneg _), Int.toNat_natCast]
  simp
theorem splitK_hit {d : UInt8} {p : List UInt8} (q : List UInt8) (h : d ∉ p) (k : Nat) : Lib.splitK [d] 0 (k + 1) (p ++ d :: q) = p :: Lib.splitK [d] 0 k q := by
  rw [Lib.splitK, index_hit d p q h, if_neg (by rw [beq_iff_eq]; omega), Int.toNat_natCast]
  simp
theorem splitK_zero (d : UInt8) (p : List UInt8) : Lib.splitK [d] 0 0 p = [p] := rfl
theorem split_three {p q r : List UInt8} (hp : (32 : UInt8) ∉ p) (hq : (32 : UInt8) ∉ q) (hr : (32 : UInt8) ∉ r) : Lib.split (p ++ [32] ++ q ++ [32] ++ r) [32] = [p, q, r] := by
  have e : p ++ [32] ++ q ++ [32] ++ r = p ++ 32 :: (q ++ 32 :: r) := by simp
  have hc : Lib.count (p ++ 32 :: (q ++ 32 :: r)) [32] = 2 := by
    rw [Lib.count_one, List.count_append, List.count_cons_self, List.count_append, List.count_cons_self, List.count_eq_zero_of_not_mem hp, List.count_eq_zero_of_not_mem hq, List.count_eq_zero_of_not_mem hr]
  rw [e, Lib.split, hc, splitK_hit _ hp, splitK_hit _ hq, splitK_zero]

/-! ### Numbers -/
theorem dec_head (n : Nat) : ¬ (1 < (Lib.decDigits n).length ∧ (Lib.decDigits n).head? = some 48) := by
  rintro ⟨ha, hb⟩
  refine (dec_figs n).2.2.2 ?_ hb
  apply Decidable.byContradiction
  intro hn
  have : n = 0 := by omega
  subst this
  simp [Lib.decDigits] at ha
theorem atoi_dec (n : Nat) (h : n ≤ 2147483648) : Lib.atoiAll (Lib.decDigits n) = .ok (n : Int) ∧ Lib.atoiAll (45 :: Lib.decDigits n) = .ok (-(n : Int)) := by
  obtain ⟨h1, h2, h3, h4⟩ := dec_figs n
  have hl := dec_len 9 n (by omega)
  obtain ⟨m, h5, h6⟩ := dec_from _ 0 h1
  have hm : m = n := by
    have : numF ((0 : Nat) : Int) (Lib.decDigits n) = (n : Int) := h2
    omega
  subst hm
  have hfig : ∀ c ∈ Lib.decDigits m, 48 ≤ c.toNat ∧ c.toNat ≤ 57 := fun c hc => of_decide_eq_true (List.all_eq_true.1 h1 c hc)
  have hne : (Lib.decDigits m).isEmpty = false := by
    cases hd : Lib.decDigits m with
    | nil => exact absurd hd h3
    | cons c r => rfl
  have hnat : Lib.decNat (Lib.decDigits m) = some m := by
    unfold Lib.decNat
    rw [hne]
    exact h5
  constructor
  · rw [Lib.atoiAll_short _ (by omega)]
    cases hd : Lib.decDigits m with
    | nil => exact absurd hd h3
    | cons c r =>
      have hc := hfig c (by rw [hd]; simp)
      have hc5 : (c == 45) = false := by
        rw [beq_eq_false_iff_ne]
        rintro rfl
        simp at hc
      have hc3 : (c == 43) = false := by
        rw [beq_eq_false_iff_ne]
        rintro rfl
        simp at hc
      rw [hd] at hnat
      rw [Lib.atoi, hc5, hc3]
      show Lib.NumEnd.ofOption ((Lib.decNat (c :: r)).map _) = _
      rw [hnat]
      rfl
  · rw [Lib.atoiAll_short _ (by rw [List.length_cons]; omega), Lib.atoi]
    show Lib.NumEnd.ofOption ((Lib.decNat (Lib.decDigits m)).map _) = _
    rw [hnat]
    rfl
/-- A number of 32 bits. -/
def In32 (n : Int) : Prop := -2147483648 ≤ n ∧ n ≤ 2147483647
instance (n : Int) : Decidable (In32 n) := by unfold In32; infer_instance
theorem itoa_ways (n : Int) : (0 ≤ n ∧ Lib.itoa n = Lib.decDigits n.toNat) ∨ (n < 0 ∧ Lib.itoa n = 45 :: Lib.decDigits n.natAbs) := by
  rcases Int.lt_or_le n 0 with h | h
  · exact Or.inr ⟨h, by unfold Lib.itoa; rw [if_pos h]⟩
  · exact Or.inl ⟨h, itoa_nat h⟩
theorem atoi_itoa {n : Int} (h : In32 n) : atoiV (Lib.itoa n) = (n, true) := by
  unfold In32 at h
  unfold atoiV
  rcases itoa_ways n with ⟨h0, e⟩ | ⟨h0, e⟩
  · rw [e, (atoi_dec n.toNat (by omega)).1]
    show ((n.toNat : Int), true) = _
    rw [Int.toNat_of_nonneg h0]
  · rw [e, (atoi_dec n.natAbs (by omega)).2]
    show (-(n.natAbs : Int), true) = _
    rw [show -(n.natAbs : Int) = n by omega]
theorem itoa_bytes (n : Int) : ∀ c ∈ Lib.itoa n, c.toNat = 45 ∨ (48 ≤ c.toNat ∧ c.toNat ≤ 57) := by
  have key : ∀ m : Nat, ∀ c ∈ Lib.decDigits m, 48 ≤ c.toNat ∧ c.toNat ≤ 57 := fun m c hc => of_decide_eq_true (List.all_eq_true.1 (dec_figs m).1 c hc)
  intro c hc
  rcases itoa_ways n with ⟨h0, e⟩ | ⟨h0, e⟩
  · rw [e] at hc
    exact Or.inr (key _ c hc)
  · rw [e] at hc
    rcases List.mem_cons.1 hc with rfl | hc
    · exact Or.inl rfl
    · exact Or.inr (key _ c hc)
theorem itoa_not (n : Int) {b : UInt8} (h : b.toNat ≠ 45 ∧ (b.toNat < 48 ∨ 57 < b.toNat)) : b ∉ Lib.itoa n := fun hm => by
  have := itoa_bytes n b hm
  omega
theorem itoa_cons (n : Int) : ∃ c r, Lib.itoa n = c :: r ∧ c.toNat ≤ 57 := by
  have hb := itoa_bytes n
  cases hi : Lib.itoa n with
  | nil =>
    rcases itoa_ways n with ⟨h0, e⟩ | ⟨h0, e⟩
    · rw [e] at hi
      exact absurd hi (dec_figs _).2.2.1
    · rw [e] at hi
      cases hi
  | cons c r =>
    have := hb c (by rw [hi]; simp)
    exact ⟨c, r, rfl, by omega⟩

/-! ### The program's reading -/
def nilB : List UInt8 := [110, 105, 108]
def pidB : List UInt8 := [112, 105, 100]
def atB : List UInt8 := [97, 116]
/-- The word of a tag, with the number that a text is. -/
def numW (t : Int) (s : List UInt8) : Wd := if (atoiV s).2 = true then ⟨t, (atoiV s).1⟩ else ⟨-1, 0⟩
/-- The word that a text may be. -/
def wordR (s : List UInt8) : Wd :=
  if s = nilB then ⟨0, 0⟩ else if s = falseB then ⟨2, 0⟩ else if s = trueB then ⟨2, 1⟩ else if Lib.hasPrefix s pidB = true then numW 3 (Lib.trimPrefix s pidB) else if Lib.hasPrefix s atB = true then numW 4 (Lib.trimPrefix s atB) else numW 1 s
theorem numW_itoa (t : Int) {n : Int} (h : In32 n) : numW t (Lib.itoa n) = ⟨t, n⟩ := by
  unfold numW
  rw [atoi_itoa h, if_pos rfl]
theorem pre_app (p q : List UInt8) : Lib.hasPrefix (p ++ q) p = true ∧ Lib.trimPrefix (p ++ q) p = q := by
  have h : Lib.hasPrefix (p ++ q) p = true := by
    unfold Lib.hasPrefix
    rw [List.isPrefixOf_iff_prefix]
    exact ⟨q, rfl⟩
  refine ⟨h, ?_⟩
  unfold Lib.trimPrefix
  rw [if_pos h]
  simp
theorem pre_not (c d : UInt8) (l p : List UInt8) (h : d ≠ c) : Lib.hasPrefix (c :: l) (d :: p) = false := by
  unfold Lib.hasPrefix
  simp [List.isPrefixOf, h]
theorem ne_cons {c d : UInt8} {l p : List UInt8} (h : c ≠ d) : c :: l ≠ d :: p := fun e => h (List.cons.inj e).1
theorem word_own {n : Nat} {d : Wd} (hn : n ≤ 1000) (h : wordP n d.tag d.num) : wordR (wordT d) = d := by
  obtain ⟨t, u⟩ := d
  simp only at h
  unfold wordP at h
  rcases h with ⟨rfl, rfl⟩ | ⟨rfl, h1, h2⟩ | ⟨rfl, h1, h2⟩ | ⟨rfl, h1, h2⟩ | ⟨rfl, h1, h2⟩
  · rfl
  · obtain ⟨c, r, e, hc⟩ := itoa_cons u
    have hw : wordT ⟨1, u⟩ = Lib.itoa u := by unfold wordT; rw [if_pos rfl]
    have hk : ∀ d : UInt8, 57 < d.toNat → c ≠ d := fun d hd e => by subst e; omega
    have hk2 : ∀ d : UInt8, 57 < d.toNat → d ≠ c := fun d hd e => by subst e; omega
    rw [hw]
    unfold wordR nilB falseB trueB pidB atB
    rw [e, if_neg (ne_cons (hk 110 (by decide))), if_neg (ne_cons (hk 102 (by decide))), if_neg (ne_cons (hk 116 (by decide))), if_neg (by rw [pre_not _ _ _ _ (hk2 112 (by decide))]; simp), if_neg (by rw [pre_not _ _ _ _ (hk2 97 (by decide))]; simp), ← e]
    exact numW_itoa 1 ⟨h1, h2⟩
  · have : u = 0 ∨ u = 1 := by omega
    rcases this with rfl | rfl <;> rfl
  · have hw : wordT ⟨3, u⟩ = pidB ++ Lib.itoa u := by unfold wordT pidB; rw [if_neg (by simp), if_neg (by simp), if_pos rfl]
    rw [hw]
    unfold wordR
    obtain ⟨p1, p2⟩ := pre_app pidB (Lib.itoa u)
    rw [p1, p2, if_pos rfl]
    unfold nilB falseB trueB pidB
    rw [List.cons_append, if_neg (ne_cons (by decide)), if_neg (ne_cons (by decide)), if_neg (ne_cons (by decide))]
    exact numW_itoa 3 (by unfold In32; omega)
  · have hw : wordT ⟨4, u⟩ = atB ++ Lib.itoa u := by unfold wordT atB; rw [if_neg (by simp), if_neg (by simp), if_neg (by simp), if_pos rfl]
    rw [hw]
    unfold wordR
    obtain ⟨p1, p2⟩ := pre_app atB (Lib.itoa u)
    have p3 : Lib.hasPrefix (atB ++ Lib.itoa u) pidB = false := pre_not _ _ _ _ (by decide)
    rw [p1, p2, p3, if_pos rfl, if_neg (by simp : ¬ false = true)]
    unfold nilB falseB trueB atB
    rw [List.cons_append, if_neg (ne_cons (by decide)), if_neg (ne_cons (by decide)), if_neg (ne_cons (by decide))]
    exact numW_itoa 4 (by unfold In32; omega)
/-- The kind that has a word. -/
def kindR (s : List UInt8) : Int := if s = kindB 1 then 1 else if s = kindB 2 then 2 else if s = kindB 3 then 3 else if s = kindB 4 then 4 else if s = kindB 5 then 5 else 0
theorem kind_own {k : Int} (h : 1 ≤ k ∧ k ≤ 5) : kindR (kindB k) = k := by
  have : k = 1 ∨ k = 2 ∨ k = 3 ∨ k = 4 ∨ k = 5 := by omega
  rcases this with rfl | rfl | rfl | rfl | rfl <;> decide
/-- The cell that three words may be. -/
def threeR (p q r : List UInt8) : Ce := if kindR p = 4 ∨ kindR p = 5 then ⟨kindR p, (wordR q).num, ⟨0, 0⟩, wordR r⟩ else ⟨kindR p, 0, wordR q, wordR r⟩
/-- The cell that a line may be. -/
def cellR (line : List UInt8) : Ce := if (Lib.split line [32]).length = 3 then threeR ((Lib.split line [32]).getD 0 []) ((Lib.split line [32]).getD 1 []) ((Lib.split line [32]).getD 2 []) else ⟨0, 0, ⟨0, 0⟩, ⟨0, 0⟩⟩
theorem word_not {d : Wd} {b : UInt8} (h : b = 10 ∨ b = 32) : b ∉ wordT d := by
  have hi : ∀ n, b ∉ Lib.itoa n := fun n => itoa_not n (by rcases h with rfl | rfl <;> decide)
  unfold wordT trueB falseB
  repeat' split
  · exact hi _
  · rcases h with rfl | rfl <;> decide
  · rcases h with rfl | rfl <;> decide
  · rw [List.mem_append, not_or]
    exact ⟨by rcases h with rfl | rfl <;> decide, hi _⟩
  · rw [List.mem_append, not_or]
    exact ⟨by rcases h with rfl | rfl <;> decide, hi _⟩
  · rcases h with rfl | rfl <;> decide
theorem kind_not {k : Int} {b : UInt8} (h : b = 10 ∨ b = 32) : b ∉ kindB k := by
  unfold kindB
  repeat' split
  all_goals (rcases h with rfl | rfl <;> decide)
theorem mid_not {c : Ce} {b : UInt8} (h : b = 10 ∨ b = 32) : b ∉ midT c := by
  unfold midT
  split
  · exact itoa_not _ (by rcases h with rfl | rfl <;> decide)
  · exact word_not h
theorem cell_not {c : Ce} : (10 : UInt8) ∉ cellB c := by
  unfold cellB
  simp only [List.mem_append, not_or]
  exact ⟨⟨⟨⟨kind_not (Or.inl rfl), by decide⟩, mid_not (Or.inl rfl)⟩, by decide⟩, word_not (Or.inl rfl)⟩
/-- A cell that is ok among so many. -/
structure Sound (n : Nat) (c : Ce) : Prop where
  kind : 1 ≤ c.kind ∧ c.kind ≤ 5
  a : wordP n c.a.tag c.a.num
  b : wordP n c.b.tag c.b.num
  fn : c.kind = 4 ∨ c.kind = 5 → (0 ≤ c.num ∧ c.num < 200) ∧ c.a.tag = 0 ∧ c.a.num = 0
  pr : ¬ (c.kind = 4 ∨ c.kind = 5) → c.num = 0
theorem heap_sound {cs : List Ce} (h : heapM cs = true) : cs.length ≤ 120 ∧ ∀ c ∈ cs, Sound cs.length c := by
  rw [heapM, Bool.and_eq_true, List.all_eq_true] at h
  refine ⟨of_decide_eq_true h.1, fun c hc => ?_⟩
  have hp : cellP cs c := of_decide_eq_true (h.2 c hc)
  unfold cellP cellQ at hp
  obtain ⟨w1, w2, w3⟩ := hp
  refine ⟨by omega, w1, w2, fun hk => ?_, fun hk => by omega⟩
  rcases w3 with h | h | h | h
  · omega
  · omega
  · omega
  · exact ⟨h.2.1, h.2.2.1⟩
theorem cell_own {n : Nat} {c : Ce} (hn : n ≤ 1000) (h : Sound n c) : cellR (cellB c) = c := by
  have hs : Lib.split (cellB c) [32] = [kindB c.kind, midT c, wordT c.b] := split_three (kind_not (Or.inr rfl)) (mid_not (Or.inr rfl)) (word_not (Or.inr rfl))
  unfold cellR
  rw [hs, if_pos (by rfl)]
  show threeR (kindB c.kind) (midT c) (wordT c.b) = c
  unfold threeR
  rw [kind_own h.kind, word_own hn h.b]
  by_cases hk : c.kind = 4 ∨ c.kind = 5
  · obtain ⟨h1, h2, h3⟩ := h.fn hk
    have hm : midT c = wordT ⟨1, c.num⟩ := by unfold midT wordT; rw [if_pos hk, if_pos rfl]
    rw [if_pos hk, hm, word_own (n := 0) (by omega) (Or.inr (Or.inl ⟨rfl, by show -2147483648 ≤ c.num; omega, by show c.num ≤ 2147483647; omega⟩))]
    obtain ⟨k, u, ⟨a1, a2⟩, b⟩ := c
    simp only at h2 h3
    rw [h2, h3]
  · have h1 := h.pr hk
    have hm : midT c = wordT c.a := by unfold midT; rw [if_neg hk]
    rw [if_neg hk, hm, word_own hn h.a]
    obtain ⟨k, u, a, b⟩ := c
    simp only at h1
    rw [h1]
/-- The cells of the first k lines. -/
def cellsR (l : List UInt8) (k : Nat) : List Ce := (List.range k).map fun i => cellR (Lib.trimSuffix (lineL i l) [10])
theorem cellsR_length (l : List UInt8) (k : Nat) : (cellsR l k).length = k := by simp [cellsR]
theorem cellsR_next (l : List UInt8) (k : Nat) : cellsR l (k + 1) = cellsR l k ++ [cellR (Lib.trimSuffix (lineL k l) [10])] := by simp [cellsR, List.range_succ]
def progC (l : List UInt8) : List Ce := cellsR (Lib.cut l [10]).2.1 (cntL (Lib.cut l [10]).2.1)
def progW (l : List UInt8) : Wd := wordR (Lib.cut l [10]).1
/-- What WireGet reads. -/
def getW (l : List UInt8) : Option (List Ce × Wd) := if l ≠ [] ∧ l.length ≤ 4000 ∧ wireM (progC l) (progW l) = l then some (progC l, progW l) else none
theorem cut_line (c : Ce) (q : List UInt8) : cutLine (lineT c ++ q) = (lineT c, q) := by
  unfold lineT
  rw [List.append_assoc]
  exact cutLine_own _ q cell_not
theorem rest_wire : ∀ (C : List Ce) (k : Nat), restL k (C.flatMap lineT) = (C.drop k).flatMap lineT
  | C, 0 => rfl
  | [], k + 1 => by
    show restL (k + 1) [] = _
    rw [rest_nil]
    simp
  | c :: C, k + 1 => by
    rw [restL]
    show restL k (cutLine (lineT c ++ C.flatMap lineT)).2 = _
    rw [cut_line, rest_wire C k]
    rfl
theorem wire_nil {C : List Ce} (h : C.flatMap lineT = []) : C = [] := by
  cases C with
  | nil => rfl
  | cons c C =>
    have := congrArg List.length h
    simp [lineT] at this
theorem prog_own {C : List Ce} {x : Wd} (h : heapM C = true) (hx : wordP C.length x.tag x.num) : progC (wireT C x) = C ∧ progW (wireT C x) = x := by
  obtain ⟨h120, hs⟩ := heap_sound h
  have hcut : Lib.cut (wireT C x) [10] = (wordT x, C.flatMap lineT, true) := by
    unfold wireT
    rw [List.append_assoc]
    exact cut_hit _ (word_not (Or.inl rfl))
  refine ⟨?_, by unfold progW; rw [hcut]; exact word_own (by omega) hx⟩
  unfold progC
  rw [hcut]
  have hc : cntL (C.flatMap lineT) = C.length := by
    have h1 := lns_end (C.flatMap lineT)
    rw [rest_wire] at h1
    have h2 := wire_nil h1
    have h3 : C.length ≤ cntL (C.flatMap lineT) := by
      have := congrArg List.length h2
      simp at this
      omega
    apply Decidable.byContradiction
    intro hn
    refine lns_rest (l := C.flatMap lineT) (k := C.length) (by omega) ?_
    rw [rest_wire, List.drop_length]
    rfl
  show cellsR (C.flatMap lineT) (cntL (C.flatMap lineT)) = C
  rw [hc]
  apply List.ext_getElem
  · rw [cellsR_length]
  · intro i h1 h2
    rw [cellsR_length] at h1
    simp only [cellsR, List.getElem_map, List.getElem_range]
    unfold lineL
    rw [rest_wire, List.drop_eq_getElem_cons h1, List.flatMap_cons, cut_line]
    show cellR (Lib.trimSuffix (cellB C[i] ++ [10]) [10]) = C[i]
    rw [trim_word]
    exact cell_own (by omega) (hs _ (List.getElem_mem h1))

/-! ### The specification's reading -/
/-- The number that a text is, and whether it is one. -/
def num12 (s : List UInt8) : Int × Bool :=
  if s.head? = some 45 then
    (if s.tail.all figB = true ∧ s.tail.length ≤ 10 ∧ s.tail ≠ [] ∧ ¬ (1 < s.tail.length ∧ s.tail.head? = some 48) ∧ numF 0 s.tail ≠ 0 then (-(numF 0 s.tail), decide (In32 (-(numF 0 s.tail)))) else (0, false))
  else
    (if s.all figB = true ∧ s.length ≤ 10 ∧ s ≠ [] ∧ ¬ (1 < s.length ∧ s.head? = some 48) then (numF 0 s, decide (In32 (numF 0 s))) else (0, false))
theorem num12_own {n : Int} (h : In32 n) : num12 (Lib.itoa n) = (n, true) := by
  have h' := h
  unfold In32 at h'
  unfold num12
  rcases itoa_ways n with ⟨h0, e⟩ | ⟨h0, e⟩
  · obtain ⟨h1, h2, h3, h4⟩ := dec_figs n.toNat
    have hl := dec_len 9 n.toNat (by omega)
    have hh := dec_head n.toNat
    have hne : (Lib.itoa n).head? ≠ some 45 := by
      rw [e]
      intro e2
      have hm := List.mem_of_mem_head? (by rw [e2]; exact rfl : (45 : UInt8) ∈ (Lib.decDigits n.toNat).head?)
      have := of_decide_eq_true (List.all_eq_true.1 h1 _ hm)
      simp at this
    rw [if_neg hne, e, if_pos ⟨h1, by omega, h3, hh⟩, h2, Int.toNat_of_nonneg h0, decide_eq_true h]
  · obtain ⟨h1, h2, h3, h4⟩ := dec_figs n.natAbs
    have hl := dec_len 9 n.natAbs (by omega)
    have hh := dec_head n.natAbs
    rw [e, List.head?_cons, if_pos rfl, List.tail_cons, if_pos ⟨h1, by omega, h3, hh, by rw [h2]; omega⟩, h2, show -((n.natAbs : Nat) : Int) = n by omega, decide_eq_true h]
/-- The word that a text is, and whether it is one. -/
def wordS (s : List UInt8) : Wd × Bool :=
  if s = nilB then (⟨0, 0⟩, true) else if s = trueB then (⟨2, 1⟩, true) else if s = falseB then (⟨2, 0⟩, true) else if 3 < s.length ∧ s.take 3 = pidB then (⟨3, numM (s.drop 3)⟩, true) else if 2 < s.length ∧ s.take 2 = atB then (⟨4, numM (s.drop 2)⟩, true) else (⟨1, (num12 s).1⟩, (num12 s).2)
theorem numM_itoa {n : Int} (h : 0 ≤ n ∧ n ≤ 999999) : numM (Lib.itoa n) = n := by
  rw [itoa_nat h.1, (num_dec n.toNat (by omega)).1, Int.toNat_of_nonneg h.1]
theorem itoa_pos (n : Int) : 1 ≤ (Lib.itoa n).length := by
  obtain ⟨c, r, e, _⟩ := itoa_cons n
  rw [e]; simp
theorem take_not (c d : UInt8) (l p : List UInt8) (k : Nat) (h : c ≠ d) : (c :: l).take (k + 1) ≠ d :: p := by
  rw [List.take_succ_cons]
  exact ne_cons h
theorem wordS_own {n : Nat} {d : Wd} (hn : n ≤ 1000) (h : wordP n d.tag d.num) : wordS (wordT d) = (d, true) := by
  obtain ⟨t, u⟩ := d
  simp only at h
  unfold wordP at h
  rcases h with ⟨rfl, rfl⟩ | ⟨rfl, h1, h2⟩ | ⟨rfl, h1, h2⟩ | ⟨rfl, h1, h2⟩ | ⟨rfl, h1, h2⟩
  · rfl
  · obtain ⟨c, r, e, hc⟩ := itoa_cons u
    have hw : wordT ⟨1, u⟩ = Lib.itoa u := by unfold wordT; rw [if_pos rfl]
    have hk : ∀ d : UInt8, 57 < d.toNat → c ≠ d := fun d hd e => by subst e; omega
    rw [hw]
    unfold wordS
    have e1 : Lib.itoa u ≠ nilB := by rw [e]; exact ne_cons (hk 110 (by decide))
    have e2 : Lib.itoa u ≠ trueB := by rw [e]; exact ne_cons (hk 116 (by decide))
    have e3 : Lib.itoa u ≠ falseB := by rw [e]; exact ne_cons (hk 102 (by decide))
    have e4 : ¬ (3 < (Lib.itoa u).length ∧ (Lib.itoa u).take 3 = pidB) := fun h => by rw [e] at h; exact take_not c 112 r _ 2 (hk 112 (by decide)) h.2
    have e5 : ¬ (2 < (Lib.itoa u).length ∧ (Lib.itoa u).take 2 = atB) := fun h => by rw [e] at h; exact take_not c 97 r _ 1 (hk 97 (by decide)) h.2
    rw [if_neg e1, if_neg e2, if_neg e3, if_neg e4, if_neg e5, num12_own ⟨h1, h2⟩]
  · have : u = 0 ∨ u = 1 := by omega
    rcases this with rfl | rfl <;> rfl
  · have hw : wordT ⟨3, u⟩ = pidB ++ Lib.itoa u := by unfold wordT pidB; rw [if_neg (by simp), if_neg (by simp), if_pos rfl]
    have hp := itoa_pos u
    rw [hw]
    unfold wordS
    have e1 : pidB ++ Lib.itoa u ≠ nilB := ne_cons (by decide)
    have e2 : pidB ++ Lib.itoa u ≠ trueB := ne_cons (by decide)
    have e3 : pidB ++ Lib.itoa u ≠ falseB := ne_cons (by decide)
    have e4 : 3 < (pidB ++ Lib.itoa u).length ∧ (pidB ++ Lib.itoa u).take 3 = pidB := ⟨by rw [List.length_append]; show 3 < 3 + (Lib.itoa u).length; omega, rfl⟩
    rw [if_neg e1, if_neg e2, if_neg e3, if_pos e4]
    show ((⟨3, numM (Lib.itoa u)⟩, true) : Wd × Bool) = _
    rw [numM_itoa (by omega)]
  · have hw : wordT ⟨4, u⟩ = atB ++ Lib.itoa u := by unfold wordT atB; rw [if_neg (by simp), if_neg (by simp), if_neg (by simp), if_pos rfl]
    have hp := itoa_pos u
    rw [hw]
    unfold wordS
    have e1 : atB ++ Lib.itoa u ≠ nilB := ne_cons (by decide)
    have e2 : atB ++ Lib.itoa u ≠ trueB := ne_cons (by decide)
    have e3 : atB ++ Lib.itoa u ≠ falseB := ne_cons (by decide)
    have e4 : ¬ (3 < (atB ++ Lib.itoa u).length ∧ (atB ++ Lib.itoa u).take 3 = pidB) := fun h => take_not 97 112 _ _ 2 (by decide) h.2
    have e5 : 2 < (atB ++ Lib.itoa u).length ∧ (atB ++ Lib.itoa u).take 2 = atB := ⟨by rw [List.length_append]; show 2 < 2 + (Lib.itoa u).length; omega, rfl⟩
    rw [if_neg e1, if_neg e2, if_neg e3, if_neg e4, if_pos e5]
    show ((⟨4, numM (Lib.itoa u)⟩, true) : Wd × Bool) = _
    rw [numM_itoa (by omega)]
/-- What l1Find answers of a word of cells. -/
def findK (s : List UInt8) : Int := if s = [] then 0 else if s = kindB 1 then 1 else if s = kindB 2 then 2 else if s = kindB 3 then 3 else if s = kindB 4 then 4 else if s = kindB 5 then 5 else -1
theorem find_own {k : Int} (h : 1 ≤ k ∧ k ≤ 5) : findK (kindB k) = k := by
  have : k = 1 ∨ k = 2 ∨ k = 3 ∨ k = 4 ∨ k = 5 := by omega
  rcases this with rfl | rfl | rfl | rfl | rfl <;> decide
theorem find_bd (s : List UInt8) : -1 ≤ findK s ∧ findK s ≤ 5 := by
  unfold findK
  repeat' split
  all_goals omega
/-- The cell that pieces of a line are, and whether they are one. -/
def piecesS (w : List (List UInt8)) : Ce × Bool :=
  if w.length ≠ 3 ∨ findK (w.getD 0 []) < 1 then (⟨findK (w.getD 0 []), 0, ⟨0, 0⟩, ⟨0, 0⟩⟩, false)
  else if 4 ≤ findK (w.getD 0 []) then (⟨findK (w.getD 0 []), numM (w.getD 1 []), ⟨0, 0⟩, (wordS (w.getD 2 [])).1⟩, (wordS (w.getD 2 [])).2)
  else (⟨findK (w.getD 0 []), 0, (wordS (w.getD 1 [])).1, (wordS (w.getD 2 [])).1⟩, (wordS (w.getD 2 [])).2 && (wordS (w.getD 1 [])).2)
def cellS (line : List UInt8) : Ce × Bool := piecesS (cutG 32 3 line)
theorem cellS_own {n : Nat} {c : Ce} (hn : n ≤ 1000) (h : Sound n c) : cellS (cellB c) = (c, true) := by
  have hs : cutG 32 3 (cellB c) = [kindB c.kind, midT c, wordT c.b] := by
    have e : cellB c = kindB c.kind ++ 32 :: (midT c ++ 32 :: wordT c.b) := by unfold cellB; simp
    rw [e, cutG_hit _ (kind_not (Or.inr rfl)), cutG_hit _ (mid_not (Or.inr rfl)), cutG_none (word_not (Or.inr rfl))]
  have hk := h.kind
  unfold cellS
  rw [hs]
  have hf := find_own hk
  unfold piecesS
  show (if [kindB c.kind, midT c, wordT c.b].length ≠ 3 ∨ findK (kindB c.kind) < 1 then _ else if 4 ≤ findK (kindB c.kind) then ((⟨findK (kindB c.kind), numM (midT c), ⟨0, 0⟩, (wordS (wordT c.b)).1⟩, (wordS (wordT c.b)).2) : Ce × Bool) else (⟨findK (kindB c.kind), 0, (wordS (midT c)).1, (wordS (wordT c.b)).1⟩, (wordS (wordT c.b)).2 && (wordS (midT c)).2)) = _
  rw [hf, if_neg (by simp; omega), wordS_own hn h.b]
  by_cases h4 : c.kind = 4 ∨ c.kind = 5
  · obtain ⟨h1, h2, h3⟩ := h.fn h4
    have hm : midT c = Lib.itoa c.num := by unfold midT; rw [if_pos h4]
    rw [if_pos (by omega), hm, numM_itoa (by omega)]
    obtain ⟨k, u, ⟨a1, a2⟩, b⟩ := c
    simp only at h2 h3
    rw [h2, h3]
  · have h1 := h.pr h4
    have hm : midT c = wordT c.a := by unfold midT; rw [if_neg h4]
    rw [if_neg (by omega), hm, wordS_own hn h.a]
    obtain ⟨k, u, a, b⟩ := c
    simp only at h1
    rw [h1]
    rfl
/-- All lines of a text. -/
def linesW (l : List UInt8) : List (List UInt8) := cutG 10 l.length (l.take (l.length - 1))
theorem lines_each : ∀ (p : List UInt8) (ps : List (List UInt8)) (m : Nat), ps.length ≤ m → (∀ x ∈ p :: ps, (10 : UInt8) ∉ x) → cutG 10 m (((p :: ps).flatMap (· ++ [10])).dropLast) = p :: ps
  | p, [], m, _, h => by
    have e : ([p].flatMap (· ++ [10])).dropLast = p := by simp
    rw [e, cutG_none (h p (by simp))]
  | p, q :: ps, 0, hm, _ => by simp at hm
  | p, q :: ps, m + 1, hm, h => by
    have e : ((p :: q :: ps).flatMap (· ++ [10])).dropLast = p ++ 10 :: ((q :: ps).flatMap (· ++ [10])).dropLast := by
      show ((p ++ [10]) ++ (q :: ps).flatMap (· ++ [10])).dropLast = _
      rw [List.append_assoc, List.dropLast_append_of_ne_nil (by simp)]
      congr 1
      show (10 :: (q :: ps).flatMap (· ++ [10])).dropLast = _
      rw [List.dropLast_cons_of_ne_nil (by simp)]
    rw [e, cutG_hit _ (h p (by simp)), lines_each q ps m (by simp at hm; omega) (fun x hx => h x (by simp at hx ⊢; exact Or.inr hx))]
theorem lines_count (C : List Ce) : C.length ≤ (C.flatMap lineT).length := by
  induction C with
  | nil => exact Nat.le_refl _
  | cons c C ih =>
    rw [List.flatMap_cons, List.length_append, List.length_cons]
    have : 1 ≤ (lineT c).length := by simp [lineT]
    omega
theorem lines_wire (C : List Ce) (x : Wd) : linesW (wireT C x) = wordT x :: C.map cellB := by
  have e : wireT C x = (wordT x :: C.map cellB).flatMap (· ++ [10]) := by
    rw [List.flatMap_cons, List.flatMap_map]
    rfl
  unfold linesW
  rw [← List.dropLast_eq_take, e]
  refine lines_each _ _ _ ?_ ?_
  · rw [← e, List.length_map]
    have := lines_count C
    unfold wireT
    rw [List.length_append]
    omega
  · intro p hp
    rcases List.mem_cons.1 hp with rfl | hp
    · exact word_not (Or.inl rfl)
    · obtain ⟨c, _, rfl⟩ := List.mem_map.1 hp
      exact cell_not
theorem wire_last (C : List Ce) (x : Wd) : (wireT C x).getLast? = some 10 := by
  have key : ∀ (C : List Ce) (p : List UInt8), (p ++ [10] ++ C.flatMap lineT).getLast? = some 10 := by
    intro C
    induction C with
    | nil => intro p; simp
    | cons c C ih =>
      intro p
      rw [List.flatMap_cons]
      have := ih (p ++ [10] ++ cellB c)
      unfold lineT at this ⊢
      simpa using this
  exact key C _

/-! ### What is answered -/
theorem wire_ok {X : List Ce} {d : Wd} {l : List UInt8} (hl : l ≠ []) (h : wireM X d = l) : okW X d := by
  apply Decidable.byContradiction
  intro hn
  rw [wireM, if_neg hn] at h
  exact hl h.symm
/-- A text that is written: the cells and the word are those that are read. -/
theorem wire_read {l : List UInt8} (hl : l ≠ []) : wireM (progC l) (progW l) = l → okW (progC l) (progW l) ∧ heapM (progC l) = true ∧ wordP (progC l).length (progW l).tag (progW l).num ∧ wireT (progC l) (progW l) = l := by
  intro h2
  have hok := wire_ok hl h2
  obtain ⟨x, ex, hheap, hwp⟩ := wire_yes hok
  have e3 : wireM (progC l) (progW l) = wireT (cleanC (progC l) [progW l]) x := by rw [wireM, if_pos hok, ex]; rfl
  rw [h2] at e3
  obtain ⟨p1, p2⟩ := prog_own hheap hwp
  rw [← e3] at p1 p2
  refine ⟨hok, hok.1, ?_, ?_⟩
  · have := hok.2
    rw [wordsM, List.all_eq_true] at this
    exact of_decide_eq_true (this _ (by simp))
  · have e4 := congr (congrArg wireT p1) p2
    exact e4.trans e3.symm
theorem getW_some {l : List UInt8} {X : List Ce} {d : Wd} (h : getW l = some (X, d)) : okW X d ∧ wireM X d = l ∧ wireT X d = l ∧ heapM X = true ∧ wordP X.length d.tag d.num ∧ l ≠ [] ∧ l.length ≤ 4000 := by
  unfold getW at h
  split at h
  · rename_i hc
    obtain ⟨h1, h2, h3⟩ := hc
    obtain ⟨g1, g2, g3, g4⟩ := wire_read h1 h3
    cases h
    exact ⟨g1, h3, g4, g2, g3, h1, h2⟩
  · cases h
/-- The cells and the word that the specification reads. -/
def specC (l : List UInt8) : List Ce := (linesW l).tail.map fun p => (cellS p).1
def specW (l : List UInt8) : Wd := (wordS ((linesW l).headD [])).1
theorem spec_own {C : List Ce} {x : Wd} (h : heapM C = true) (hx : wordP C.length x.tag x.num) : specC (wireT C x) = C ∧ specW (wireT C x) = x ∧ (wordS ((linesW (wireT C x)).headD [])).2 = true ∧ ∀ p ∈ (linesW (wireT C x)).tail, (cellS p).2 = true := by
  obtain ⟨h120, hs⟩ := heap_sound h
  unfold specC specW
  rw [lines_wire]
  show ((C.map cellB).map fun p => (cellS p).1) = C ∧ (wordS (wordT x)).1 = x ∧ (wordS (wordT x)).2 = true ∧ ∀ p ∈ C.map cellB, (cellS p).2 = true
  rw [wordS_own (by omega) hx]
  refine ⟨?_, rfl, rfl, fun p hp => ?_⟩
  · rw [List.map_map]
    conv => rhs; rw [← List.map_id C]
    refine List.map_congr_left fun c hc => ?_
    show (cellS (cellB c)).1 = c
    rw [cellS_own (by omega) (hs c hc)]
  · obtain ⟨c, hc, rfl⟩ := List.mem_map.1 hp
    rw [cellS_own (by omega) (hs c hc)]
theorem getW_intro {l : List UInt8} (hl : l ≠ []) (h4 : l.length ≤ 4000) (h : wireM (specC l) (specW l) = l) : getW l = some (specC l, specW l) := by
  have hok := wire_ok hl h
  obtain ⟨x, ex, hheap, hwp⟩ := wire_yes hok
  have e3 : wireM (specC l) (specW l) = wireT (cleanC (specC l) [specW l]) x := by rw [wireM, if_pos hok, ex]; rfl
  rw [h] at e3
  obtain ⟨p1, p2⟩ := prog_own hheap hwp
  obtain ⟨s1, s2, _⟩ := spec_own hheap hwp
  rw [← e3] at p1 p2 s1 s2
  unfold getW
  rw [p1, p2, ← s1, ← s2, if_pos ⟨hl, h4, h⟩]
theorem getW_none {l : List UInt8} (h : l ≠ [] → l.length ≤ 4000 → l.getLast? = some 10 → okW (specC l) (specW l) → wireM (specC l) (specW l) = l → (wordS ((linesW l).headD [])).2 = true → (∀ p ∈ (linesW l).tail, (cellS p).2 = true) → False) : getW l = none := by
  cases hg : getW l with
  | none => rfl
  | some q =>
    obtain ⟨X, d⟩ := q
    obtain ⟨h1, h2, h3, h4, h5, h6, h7⟩ := getW_some hg
    obtain ⟨s1, s2, s3, s4⟩ := spec_own h4 h5
    have hlast := wire_last X d
    rw [h3] at s1 s2 s3 s4 hlast
    refine (h h6 h7 hlast ?_ ?_ s3 s4).elim
    · rw [s1, s2]; exact h1
    · rw [s1, s2]; exact h2
end Go.Proofs.YthikfinliiaecaaGreatDoor

