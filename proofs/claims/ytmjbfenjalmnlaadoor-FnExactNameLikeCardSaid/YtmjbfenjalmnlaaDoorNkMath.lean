/-
  Expressions that differ by names that they bind alone: plain mathematics.
-/
import Derived.Test.YtmjbfenjalmnlaaDoorNkUnder
import Derived.Test.YtmjbfenjalmnlaaDoorExSize
namespace Go.Proofs.YtmjbfenjalmnlaaDoor

/-- What an expression binds in the part at a place. -/
def Ex.bindsAt (e : Ex) (i : Int) : List ByteArray := bindsL e.kind e.name e.tail i

mutual
/-- Whether two expressions are alike, where xs and ys are bound around them; 'at' tells where a name is bound. -/
def likeM (at' : List ByteArray → ByteArray → Int) : Ex → Ex → List ByteArray → List ByteArray → Bool
  | .mk k a b u ks, y, xs, ys =>
    if k ≠ y.kind ∨ u ≠ y.num ∨ ks.length ≠ y.kids.length then false
    else if k = 3 then (at' xs a == at' ys y.name) && (decide (0 ≤ at' xs a) || (a.toList == y.name.toList))
    else likeAll at' ks y.kids 0 (fun i => xs ++ bindsL k a b i) (fun i => ys ++ y.bindsAt i)
def likeAll (at' : List ByteArray → ByteArray → Int) : List Ex → List Ex → Int → (Int → List ByteArray) → (Int → List ByteArray) → Bool
  | [], _, _, _, _ => true
  | _ :: _, [], _, _, _ => true
  | e :: es, f :: fs, i, fx, fy => likeM at' e f (fx i) (fy i) && likeAll at' es fs (i + 1) fx fy
end

theorem likeM_eq (at' : List ByteArray → ByteArray → Int) (x y : Ex) (xs ys : List ByteArray) : likeM at' x y xs ys =
    if x.kind ≠ y.kind ∨ x.num ≠ y.num ∨ x.kids.length ≠ y.kids.length then false
    else if x.kind = 3 then (at' xs x.name == at' ys y.name) && (decide (0 ≤ at' xs x.name) || (x.name.toList == y.name.toList))
    else likeAll at' x.kids y.kids 0 (fun i => xs ++ x.bindsAt i) (fun i => ys ++ y.bindsAt i) := by
  cases x; rw [likeM]; rfl

theorem likeAll_drop (at' : List ByteArray → ByteArray → Int) (es fs : List Ex) (i : Int) (fx fy : Int → List ByteArray) (k : Nat) (h1 : k < es.length) (h2 : k < fs.length) :
    likeAll at' (es.drop k) (fs.drop k) i fx fy = (likeM at' es[k] fs[k] (fx i) (fy i) && likeAll at' (es.drop (k + 1)) (fs.drop (k + 1)) (i + 1) fx fy) := by
  rw [List.drop_eq_getElem_cons h1, List.drop_eq_getElem_cons h2, likeAll]
theorem likeAll_end (at' : List ByteArray → ByteArray → Int) (es fs : List Ex) (i : Int) (fx fy : Int → List ByteArray) (k : Nat) (h1 : es.length ≤ k) : likeAll at' (es.drop k) (fs.drop k) i fx fy = true := by
  rw [List.drop_eq_nil_of_le h1, likeAll]

theorem bindsL_length (k : Int) (a b a' b' : ByteArray) (i : Int) : (bindsL k a b i).length = (bindsL k a' b' i).length := by
  rw [bindsL_eq, bindsL_eq]
  cases nameIn k i <;> cases tailIn k i <;> rfl
theorem bindsL_two (k : Int) (a b : ByteArray) (i : Int) : (bindsL k a b i).length ≤ 2 := by
  rw [bindsL_eq]
  cases nameIn k i <;> cases tailIn k i <;> simp

/-- Where a name was bound last, from the first on. -/
def lastF (l : List ByteArray) (s : ByteArray) : Int := lastTo l s l.length

theorem at_same (xs ys : List ByteArray) (a b : ByteArray) (h : xs.length = ys.length) : (lastF xs a == lastF ys b) = (atB xs a == atB ys b) ∧ decide (0 ≤ lastF xs a) = decide (0 ≤ atB xs a) := by
  have h1 := lastTo_bd xs a xs.length
  have h2 := lastTo_bd ys b ys.length
  unfold lastF atB
  constructor
  · rw [Bool.eq_iff_iff]; simp; split <;> split <;> omega
  · rw [decide_eq_decide]; split <;> omega

theorem likeAll_congr (p q : List ByteArray → ByteArray → Int) (es : List Ex) (ih : ∀ e ∈ es, ∀ (y : Ex) (xs ys : List ByteArray), xs.length = ys.length → likeM p e y xs ys = likeM q e y xs ys) :
    ∀ (fs : List Ex) (i : Int) (fx fy : Int → List ByteArray), (∀ i, (fx i).length = (fy i).length) → likeAll p es fs i fx fy = likeAll q es fs i fx fy := by
  induction es with
  | nil => intro fs i fx fy _; rw [likeAll, likeAll]
  | cons e es ihl =>
    intro fs i fx fy h
    cases fs with
    | nil => rw [likeAll, likeAll]
    | cons f fs =>
      rw [likeAll, likeAll, ih e (by simp) f _ _ (h i), ihl (fun x hx => ih x (by simp [hx])) fs (i + 1) fx fy h]

/-- Counted from the first on or from the last: the same. -/
theorem like_same (x : Ex) : ∀ (y : Ex) (xs ys : List ByteArray), xs.length = ys.length → likeM lastF x y xs ys = likeM atB x y xs ys := by
  induction x using Ex.ind with
  | h x ih =>
    intro y xs ys h
    rw [likeM_eq, likeM_eq]
    by_cases hc : x.kind ≠ y.kind ∨ x.num ≠ y.num ∨ x.kids.length ≠ y.kids.length
    · rw [if_pos hc, if_pos hc]
    · rw [if_neg hc, if_neg hc]
      by_cases h3 : x.kind = 3
      · rw [if_pos h3, if_pos h3, (at_same xs ys x.name y.name h).1, (at_same xs ys x.name y.name h).2]
      · rw [if_neg h3, if_neg h3]
        refine likeAll_congr _ _ x.kids ih y.kids 0 _ _ (fun i => ?_)
        have hk : x.kind = y.kind := by by_cases e : x.kind = y.kind; exact e; exact absurd (Or.inl e) hc
        simp only [List.length_append, h, Ex.bindsAt, hk]
        rw [bindsL_length y.kind x.name x.tail y.name y.tail i]

/-- The parts of what is ok are ok. -/
theorem sizeAll_parts (d : Int) : ∀ (es : List Ex) (m : Int), 1 ≤ m → sizeAll es d m ≤ 60 → ∀ e ∈ es, sizeM e d ≤ 60
  | [], _, _, _, e, he => by simp at he
  | x :: es, m, hm, h, e, he => by
    rw [sizeAll] at h
    have hb := sizeM_bd x d
    split at h
    · omega
    · rcases List.mem_cons.1 he with rfl | he
      · omega
      · exact sizeAll_parts d es (m + sizeM x d) (by omega) h e he
theorem sizeM_parts (e : Ex) (d : Int) (h : sizeM e d ≤ 60) : d ≤ 14 ∧ ∀ x ∈ e.kids, sizeM x (d + 1) ≤ 60 := by
  rw [sizeM_eq] at h
  split at h
  · omega
  · rename_i hn
    refine ⟨by omega, fun x hx => sizeAll_parts (d + 1) e.kids 1 (by omega) h x hx⟩
end Go.Proofs.YtmjbfenjalmnlaaDoor
