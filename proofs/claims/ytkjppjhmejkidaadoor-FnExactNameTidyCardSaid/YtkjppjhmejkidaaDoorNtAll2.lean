/-
  The specification's l1Size, l1Ok, ExprOk.
  Expressions that differ by names that they bind alone: plain mathematics.
  append of texts onto texts of the call's own, as one step of a region that draws its order.
  The program's rules: what each kind has.
  The program's namesFit, formOf, hasItsOwn.
-/
import Derived.Test.YtkjppjhmejkidaaDoorNtAll1
import Derived.Deep.RegionWith
import Derived.Deep.QuietTactic
import Derived.BigQuiet
import Derived.Deep.RegionLawGrows
namespace Go.Proofs.YtkjppjhmejkidaaDoor
open Go.RowKit

theorem spec_l1Bare (k : Int) (a b : ByteArray) (u : Int) (s : Value) (w : World) (ha : a.size ≤ maxLen) (hb : b.size ≤ maxLen) :
    Calls Tryd.prog 39 #[.agg #[.int .i64 k, .string a, .string b, .int .i64 u, s]] w fun r w' => r = .returned (.bool (bareC k a b u)) ∧ Below w.heap.size w w' := by
  by_cases h0 : k = 1 ∨ k = 2 ∨ k = 15
  · exact bare_num k h0 a b u s w
  by_cases h1 : k = 3 ∨ k = 4 ∨ k = 6
  · exact bare_one k h1 a b u s w ha
  by_cases h2 : k = 7 ∨ k = 14
  · exact bare_two k h2 a b u s w ha hb
  · refine bare_none k ?_ ?_ ?_ ?_ ?_ ?_ ?_ ?_ a b u s w ⟨?_, ?_, ?_⟩
    all_goals first | (simp; omega) | skip
    · unfold namesN; rw [if_neg h1, if_neg h2]
    · unfold leastN; rw [if_neg (by omega)]
    · unfold mostN; rw [if_neg (by omega), if_neg (by omega), if_neg (by omega)]

mutual
/-- How many parts an expression has; 61 if there are more than 60, or it is not ok. -/
def sizeM : Ex → Int → Int
  | .mk k n t u ks, deep => if 14 < deep ∨ (ks.length : Int) ≠ kidsN k ∨ bareC k n t u = false then 61 else sizeAll ks (deep + 1) 1
def sizeAll : List Ex → Int → Int → Int
  | [], _, n => n
  | e :: es, d, n => if 60 < n + sizeM e d then 61 else sizeAll es d (n + sizeM e d)
end

theorem sizeAll_bd (d : Int) : ∀ (es : List Ex) (n : Int), (∀ e ∈ es, 1 ≤ sizeM e d ∧ sizeM e d ≤ 61) → 1 ≤ n → n ≤ 60 → 1 ≤ sizeAll es d n ∧ sizeAll es d n ≤ 61
  | [], n, _, h1, h2 => by rw [sizeAll]; omega
  | e :: es, n, h, h1, h2 => by
    rw [sizeAll]
    have he := h e (by simp)
    split
    · omega
    · exact sizeAll_bd d es _ (fun x hx => h x (by simp [hx])) (by omega) (by omega)

theorem sizeM_eq (e : Ex) (d : Int) : sizeM e d = if 14 < d ∨ (e.kids.length : Int) ≠ kidsN e.kind ∨ bareC e.kind e.name e.tail e.num = false then 61 else sizeAll e.kids (d + 1) 1 := by
  cases e; rw [sizeM]; rfl

theorem sizeM_bd (e : Ex) : ∀ d, 1 ≤ sizeM e d ∧ sizeM e d ≤ 61 := by
  induction e using Ex.ind with
  | h e ih =>
    intro d
    rw [sizeM_eq]
    split
    · omega
    · exact sizeAll_bd (d + 1) e.kids 1 (fun x hx => ih x hx (d + 1)) (by omega) (by omega)

theorem sizeAll_drop (es : List Ex) (d n : Int) (k : Nat) (h : k < es.length) : sizeAll (es.drop k) d n = if 60 < n + sizeM es[k] d then 61 else sizeAll (es.drop (k + 1)) d (n + sizeM es[k] d) := by
  rw [List.drop_eq_getElem_cons h, sizeAll]

/-- What l1Size does with one expression. -/
def SizeOfEx (e : Ex) : Prop := ∀ (w : World) (s : Value) (deep : Int), Lies w (· < w.heap.size) e.kids s → 0 ≤ deep → deep ≤ 100 →
  Calls Tryd.prog 23 #[e.val s, .int .i64 deep] w fun r w' => r = .returned (.int .i64 (sizeM e deep)) ∧ Below w.heap.size w w'

theorem below_box_drewN (w : World) (o : Obj) (n : Nat) : Below w.heap.size w ((w.alloc o).drewN n) :=
  below_drewN ((Below.refl _ _).alloc (Nat.le_refl _) _) n
theorem below_box_drew {w w2 : World} {o : Obj} (h : Below (w.alloc o).drew.heap.size (w.alloc o).drew w2) : Below w.heap.size w w2 :=
  ((Below.refl _ _).alloc (Nat.le_refl _) _).drew.trans (h.mono (by show w.heap.size ≤ (w.alloc o).heap.size; simp))
theorem below_step {w w2 : World} {o : Obj} (h : Below (w.alloc o).drew.heap.size (w.alloc o).drew w2) : Below (w.heap.size + 1) (w.alloc o) w2 :=
  (Below.refl _ _).drew.trans (h.mono (by show w.heap.size + 1 ≤ (w.alloc o).heap.size; simp))
theorem below_of_box {w wr : World} {o : Obj} (h : Below (w.heap.size + 1) (w.alloc o) wr) : Below w.heap.size w wr :=
  ((Below.refl _ _).alloc (Nat.le_refl _) _).trans (h.mono (by omega))
theorem cell4_of_box {w wr : World} {a b c d x : Value} {t : TypeId} (h : Below (w.heap.size + 1) (w.alloc (.cells #[a, b, c, d, x] t)) wr) : wr.cell? ⟨w.heap.size, 4, none⟩ = some x := by
  rw [h.cell (p := ⟨w.heap.size, 4, none⟩) (by show w.heap.size < w.heap.size + 1; omega), cell_of_row _ _ _ _ _ _ (heap_alloc_new w _)]
  rfl

theorem below_box_trans {w wr w3 : World} {o : Obj} (h : Below (w.heap.size + 1) (w.alloc o) wr) (h3 : Below wr.heap.size wr w3) : Below (w.heap.size + 1) (w.alloc o) w3 :=
  h.trans (h3.mono (by have := h.size; simpa using this))

set_option maxHeartbeats 2000000 in
theorem size_walk (e : Ex) (hf : e.Fit) (ih : ∀ x ∈ e.kids, SizeOfEx x) : SizeOfEx e := by
  intro w s deep hv h0 h1
  obtain ⟨_, hn, ht, hk, hx⟩ := hf
  have hbare := spec_l1Bare e.kind e.name e.tail e.num
  have hk2 := hk
  unfold maxLen at hk2
  obtain ⟨a, cap, rfl⟩ := hv.slice
  by_cases hdeep : 14 < deep
  · have HS : Hid (sizeM e deep = 61) := by
      show _ = _
      rw [sizeM_eq, if_pos (Or.inl hdeep)]
    have hd : decide (14 < deep) = true := by simpa using hdeep
    go_enter Tryd.func23, Tryd.ntmps23
    go_wp2_with fail
    go_quiet (fail)
    go_wp2_with fail
    go_ret
    exact ⟨ret_int HS.out.symm, below_box_drewN _ _ _⟩
  have hd : decide (14 < deep) = false := by simpa using hdeep
  by_cases hkk : (e.kids.length : Int) = kidsN e.kind
  · have hne : ((e.kids.length : Int) != kidsN e.kind) = false := by simpa using hkk
    have HK : Hid ((e.kids.length : Int) = kidsN e.kind) := hkk
    clear hkk
    cases hbb : bareC e.kind e.name e.tail e.num
    · have HS : Hid (sizeM e deep = 61) := by
        show _ = _
        rw [sizeM_eq, if_pos (Or.inr (Or.inr hbb))]
      go_enter Tryd.func23, Tryd.ntmps23
      go_wp2_with fail
      go_region_with (first | (go_at_call 38; refine (spec_l1Kids _ _).mono ?_; rintro r w2 ⟨rfl, rfl⟩) | (go_at_call 39; refine (hbare _ _ hn ht).mono ?_; rintro r w2 ⟨rfl, hb2⟩; rw [hbb]))
      all_goals
        go_wp2_with fail
        go_ret
        exact ⟨ret_int HS.out.symm, below_box_drew hb2⟩
    have HS : Hid (sizeM e deep = sizeAll (e.kids.drop 0) (deep + 1) 1) := by
      show _ = _
      rw [sizeM_eq, if_neg (by have := HK.out; rintro (h | h | h); exact hdeep h; exact h this; rw [hbb] at h; cases h)]; rfl
    go_enter Tryd.func23, Tryd.ntmps23
    go_wp2_with fail
    go_region_with (first | (go_at_call 38; refine (spec_l1Kids _ _).mono ?_; rintro r w2 ⟨rfl, rfl⟩) | (go_at_call 39; refine (hbare _ _ hn ht).mono ?_; rintro r w2 ⟨rfl, hb2⟩; rw [hbb]))
    all_goals
      go_wp2_with fail
      go_loopw [5, 6] (fun n i wr => ∃ (k : Nat) (m : Int), k ≤ e.kids.length ∧ i = .int .i64 k ∧ n = .int .i64 m ∧ 1 ≤ m ∧ m ≤ 60 ∧ Hid (sizeM e deep = sizeAll (e.kids.drop k) (deep + 1) m) ∧ Below (w.heap.size + 1) (w.alloc (.cells #[.int .i64 e.kind, .string e.name, .string e.tail, .int .i64 e.num, .slice a e.kids.length cap] 28)) wr) (fun _ i _ => e.kids.length - (intOf i).toNat)
      case atStart => exact ⟨0, 1, by omega, rfl, rfl, by omega, by omega, HS, below_step hb2⟩
      case round =>
        obtain ⟨k, m, hkl, rfl, rfl, hm1, hm2, HE, hb⟩ := hrel
        have hbw := below_of_box hb
        have hc4 := cell4_of_box hb
        by_cases hlt : k < e.kids.length
        · obtain ⟨b, off, cap', s, hS, hsl, hr, hl⟩ := hv.at (List.getElem?_eq_getElem hlt)
          obtain ⟨rfl, rfl⟩ : a = some ⟨b, off, none⟩ ∧ cap = cap' := by simpa using hsl
          obtain ⟨c0, c1, c2, c3, c4⟩ := Ex.five (rangeAt_same (hbw.block b hS) hr)
          have hl' := (hl.keep hbw hbw.size)
          have hsb := sizeM_bd e.kids[k] (deep + 1)
          have hsd := sizeAll_drop e.kids (deep + 1) m k hlt
          have HD : Hid (sizeAll (e.kids.drop k) (deep + 1) m = if 60 < m + sizeM e.kids[k] (deep + 1) then 61 else sizeAll (e.kids.drop (k + 1)) (deep + 1) (m + sizeM e.kids[k] (deep + 1))) := hsd
          clear hr hl hsl hsd
          go_wp2_with (go_at_call 23; refine (ih e.kids[k] (List.getElem_mem hlt) _ _ _ hl' (by omega) (by omega)).mono ?_; rintro r w3 ⟨rfl, hb3⟩)
          · go_ret
            exact ⟨ret_int (by rw [HE.out, HD.out, if_pos (by omega)]), hbw.trans (hb3.mono hbw.size)⟩
          · go_roundw
            case rel => exact ⟨k + 1, _, by omega, by go_num, rfl, by omega, by omega, by show _ = _; rw [HE.out, HD.out, if_neg (by omega)], below_box_trans hb hb3⟩
            case measure => simp [intOf]; omega
        · go_wp2_with fail
          go_ret
          exact ⟨ret_int (by rw [HE.out, List.drop_eq_nil_of_le (by omega), sizeAll]), hbw⟩
  · have HS : Hid (sizeM e deep = 61) := by
      show _ = _
      rw [sizeM_eq, if_pos (Or.inr (Or.inl hkk))]
    have hne : ((e.kids.length : Int) != kidsN e.kind) = true := by simpa using hkk
    go_enter Tryd.func23, Tryd.ntmps23
    go_wp2_with fail
    go_quiet ((go_at_call 38; exact Calls.quiet_of_same ((spec_l1Kids _ _).mono fun _ _ h => ⟨h.1, h.2.symm⟩)))
    go_wp2_with fail
    go_ret
    exact ⟨ret_int HS.out.symm, below_box_drewN _ _ _⟩

theorem spec_l1Size (e : Ex) : e.Fit → SizeOfEx e := by
  induction e using Ex.ind with
  | h e ih =>
    intro hf
    have hx : ∀ x ∈ e.kids, x.Fit := by cases hf; assumption
    exact size_walk e hf fun x hm => ih x hm (hx x hm)

set_option maxHeartbeats 400000 in
theorem spec_l1Ok (e : Ex) (hf : e.Fit) (w : World) (s : Value) (hv : Lies w (· < w.heap.size) e.kids s) :
    Calls Tryd.prog 12 #[e.val s] w fun r w' => r = .returned (.bool (decide (sizeM e 1 ≤ 60))) ∧ Below w.heap.size w w' := by
  have hv' : ∀ o, Lies (w.alloc o) (· < (w.alloc o).heap.size) e.kids s := fun o => hv.keep ((Below.refl _ _).alloc (Nat.le_refl _) o) (by simp)
  go_enter Tryd.func12, Tryd.ntmps12
  go_wp2_with (go_at_call 23; refine (spec_l1Size e hf _ _ _ (hv' _) (by omega) (by omega)).mono ?_; rintro r w2 ⟨rfl, hb2⟩)
  go_ret
  exact ⟨rfl, ((Below.refl _ _).alloc (Nat.le_refl _) _).trans (hb2.mono (by simp))⟩

end Go.Proofs.YtkjppjhmejkidaaDoor

namespace Go.Proofs.YtkjppjhmejkidaaDoor

/-- What an expression binds in the part at a place. -/
def Ex.bindsAt (e : Ex) (i : Int) : List ByteArray := bindsL e.kind e.name e.tail i

mutual
/-- Whether two expressions are alike, where xs and ys are bound around them; 'at' tells where a name is bound. -/
def likeM (at' : List ByteArray → ByteArray → Int) : Ex → Ex → List ByteArray → List ByteArray → Bool
  | .mk k a b u ks, y, xs, ys =>
    if k ≠ y.kind ∨ u ≠ y.num ∨ ks.length ≠ y.kids.length then false
    else if k = 3 then (at' xs a == at' ys y.name) && (decide (0 ≤ at' xs a) || (a.toList == y.name.toList))
    else likeAll at' ks y.kids 0 (fun i => xs ++ bindsL k a b i) (fun i => ys ++ y.bindsAt i)
def likeAll (at' : List ByteArray → ByteArray → Int) : List Ex → List Ex → Int → (Int → List ByteArray) → (Int → List ByteArray) → Bool
  | [], _, _, _, _ => true
  | _ :: _, [], _, _, _ => true
  | e :: es, f :: fs, i, fx, fy => likeM at' e f (fx i) (fy i) && likeAll at' es fs (i + 1) fx fy
end

theorem likeM_eq (at' : List ByteArray → ByteArray → Int) (x y : Ex) (xs ys : List ByteArray) : likeM at' x y xs ys =
    if x.kind ≠ y.kind ∨ x.num ≠ y.num ∨ x.kids.length ≠ y.kids.length then false
    else if x.kind = 3 then (at' xs x.name == at' ys y.name) && (decide (0 ≤ at' xs x.name) || (x.name.toList == y.name.toList))
    else likeAll at' x.kids y.kids 0 (fun i => xs ++ x.bindsAt i) (fun i => ys ++ y.bindsAt i) := by
  cases x; rw [likeM]; rfl

theorem likeAll_drop (at' : List ByteArray → ByteArray → Int) (es fs : List Ex) (i : Int) (fx fy : Int → List ByteArray) (k : Nat) (h1 : k < es.length) (h2 : k < fs.length) :
    likeAll at' (es.drop k) (fs.drop k) i fx fy = (likeM at' es[k] fs[k] (fx i) (fy i) && likeAll at' (es.drop (k + 1)) (fs.drop (k + 1)) (i + 1) fx fy) := by
  rw [List.drop_eq_getElem_cons h1, List.drop_eq_getElem_cons h2, likeAll]
theorem likeAll_end (at' : List ByteArray → ByteArray → Int) (es fs : List Ex) (i : Int) (fx fy : Int → List ByteArray) (k : Nat) (h1 : es.length ≤ k) : likeAll at' (es.drop k) (fs.drop k) i fx fy = true := by
  rw [List.drop_eq_nil_of_le h1, likeAll]

theorem bindsL_length (k : Int) (a b a' b' : ByteArray) (i : Int) : (bindsL k a b i).length = (bindsL k a' b' i).length := by
  rw [bindsL_eq, bindsL_eq]
  cases nameIn k i <;> cases tailIn k i <;> rfl
theorem bindsL_two (k : Int) (a b : ByteArray) (i : Int) : (bindsL k a b i).length ≤ 2 := by
  rw [bindsL_eq]
  cases nameIn k i <;> cases tailIn k i <;> simp

/-- Where a name was bound last, from the first on. -/
def lastF (l : List ByteArray) (s : ByteArray) : Int := lastTo l s l.length

theorem at_same (xs ys : List ByteArray) (a b : ByteArray) (h : xs.length = ys.length) : (lastF xs a == lastF ys b) = (atB xs a == atB ys b) ∧ decide (0 ≤ lastF xs a) = decide (0 ≤ atB xs a) := by
  have h1 := lastTo_bd xs a xs.length
  have h2 := lastTo_bd ys b ys.length
  unfold lastF atB
  constructor
  · rw [Bool.eq_iff_iff]; simp; split <;> split <;> omega
  · rw [decide_eq_decide]; split <;> omega

theorem likeAll_congr (p q : List ByteArray → ByteArray → Int) (es : List Ex) (ih : ∀ e ∈ es, ∀ (y : Ex) (xs ys : List ByteArray), xs.length = ys.length → likeM p e y xs ys = likeM q e y xs ys) :
    ∀ (fs : List Ex) (i : Int) (fx fy : Int → List ByteArray), (∀ i, (fx i).length = (fy i).length) → likeAll p es fs i fx fy = likeAll q es fs i fx fy := by
  induction es with
  | nil => intro fs i fx fy _; rw [likeAll, likeAll]
  | cons e es ihl =>
    intro fs i fx fy h
    cases fs with
    | nil => rw [likeAll, likeAll]
    | cons f fs =>
      rw [likeAll, likeAll, ih e (by simp) f _ _ (h i), ihl (fun x hx => ih x (by simp [hx])) fs (i + 1) fx fy h]

/-- Counted from the first on or from the last: the same. -/
theorem like_same (x : Ex) : ∀ (y : Ex) (xs ys : List ByteArray), xs.length = ys.length → likeM lastF x y xs ys = likeM atB x y xs ys := by
  induction x using Ex.ind with
  | h x ih =>
    intro y xs ys h
    rw [likeM_eq, likeM_eq]
    by_cases hc : x.kind ≠ y.kind ∨ x.num ≠ y.num ∨ x.kids.length ≠ y.kids.length
    · rw [if_pos hc, if_pos hc]
    · rw [if_neg hc, if_neg hc]
      by_cases h3 : x.kind = 3
      · rw [if_pos h3, if_pos h3, (at_same xs ys x.name y.name h).1, (at_same xs ys x.name y.name h).2]
      · rw [if_neg h3, if_neg h3]
        refine likeAll_congr _ _ x.kids ih y.kids 0 _ _ (fun i => ?_)
        have hk : x.kind = y.kind := by by_cases e : x.kind = y.kind; exact e; exact absurd (Or.inl e) hc
        simp only [List.length_append, h, Ex.bindsAt, hk]
        rw [bindsL_length y.kind x.name x.tail y.name y.tail i]

/-- The parts of what is ok are ok. -/
theorem sizeAll_parts (d : Int) : ∀ (es : List Ex) (m : Int), 1 ≤ m → sizeAll es d m ≤ 60 → ∀ e ∈ es, sizeM e d ≤ 60
  | [], _, _, _, e, he => by simp at he
  | x :: es, m, hm, h, e, he => by
    rw [sizeAll] at h
    have hb := sizeM_bd x d
    split at h
    · omega
    · rcases List.mem_cons.1 he with rfl | he
      · omega
      · exact sizeAll_parts d es (m + sizeM x d) (by omega) h e he
theorem sizeM_parts (e : Ex) (d : Int) (h : sizeM e d ≤ 60) : d ≤ 14 ∧ ∀ x ∈ e.kids, sizeM x (d + 1) ≤ 60 := by
  rw [sizeM_eq] at h
  split at h
  · omega
  · rename_i hn
    refine ⟨by omega, fun x hx => sizeAll_parts (d + 1) e.kids 1 (by omega) h x hx⟩
end Go.Proofs.YtkjppjhmejkidaaDoor

namespace Go.Proofs.YtkjppjhmejkidaaDoor
open Go.RowKit

theorem run_append_none (ty : TypeId) (v : Value) (w : World) (hv : (∃ ad n cap, v = .slice (some ad) n cap ∧ n ≤ cap) ∨ v = .slice none 0 0) :
    (Builtin.append_ #[37, 37] ty #[v, .slice none 0 0]).run Tryd.prog w = .ok v w := by
  obtain ⟨i0, hi, hz0, hz1, hz2⟩ := strInfo'
  rcases hv with ⟨ad, n, cap, rfl, hn⟩ | rfl
  · simp [Builtin.append_, run_underlying Tryd.underlying37, sizeOf, typeInfo, hi, Builtin.lenOf, Builtin.firstCells, loadCells, hn, storeCells]
  · simp [Builtin.append_, run_underlying Tryd.underlying37, sizeOf, typeInfo, hi, Builtin.lenOf, Builtin.firstCells]
theorem run_append_empty (ty : TypeId) (ad ad2 : Addr) (c : Nat) (w : World) :
    (Builtin.append_ #[37, 37] ty #[.slice (some ad) 0 0, .slice (some ad2) 0 c]).run Tryd.prog w = .ok (.slice (some ad) 0 0) w := by
  obtain ⟨i0, hi, hz0, hz1, hz2⟩ := strInfo'
  simp [Builtin.append_, run_underlying Tryd.underlying37, sizeOf, typeInfo, hi, Builtin.lenOf, Builtin.firstCells, loadCells, loadCellsFrom, storeCells]

theorem own_append {w : World} {B : Nat} {l m : List ByteArray} {v : Value} (h : w.ownsRow B 9 1 v (l.length + m.length) (l.map .string ++ m.map .string)) : App w B (l ++ m) v :=
  Or.inl (by simpa using h)

theorem run_append_app (ty : TypeId) (w : World) (B : Nat) (l m : List ByteArray) (v y : Value) (hv : App w B l v) (hy : Env w m y) (hl : l.length ≤ 1000) (hm : m.length ≤ 1000) (hB : B ≤ w.heap.size) :
    ∃ v' w', (Builtin.append_ #[37, 37] ty #[v, y]).run Tryd.prog w = .ok v' w' ∧ App w' B (l ++ m) v' ∧ Below B w w' := by
  obtain ⟨i0, hi, hz0, hz1, hz2⟩ := strInfo'
  rcases App.cases hy with ⟨rfl, rfl⟩ | ⟨ad2, c, rfl, hc⟩
  · refine ⟨v, w, run_append_none ty v w ?_, by simpa using hv, Below.refl _ _⟩
    rcases hv with h | ⟨ad, rfl, _⟩
    · obtain ⟨_, ⟨rfl, _⟩ | ⟨g, cap, cur, rfl, _, _, hn, _⟩⟩ := h
      · exact Or.inr rfl
      · exact Or.inl ⟨_, _, _, rfl, hn⟩
    · exact Or.inl ⟨_, _, _, rfl, Nat.le_refl _⟩
  · rcases hv with h | ⟨ad, rfl, rfl⟩
    · obtain ⟨v', w', hr, h2, h3, _⟩ := run_append_own (P := Tryd.prog) w B 37 ty 9 i0 (.string ⟨#[]⟩) 1 16 Tryd.underlying37 hi hz0 hz1 hz2 rfl (by decide) v l.length (l.map .string) h ad2 m.length c (m.map .string) (by simp) hc (strs_one m) (by unfold maxLen; omega) (by omega) hB
      exact ⟨v', w', hr, own_append h2, (Below.refl _ _).grown h3 hB (fun k hk => (h.lt k hk).1)⟩
    · cases m with
      | nil => exact ⟨_, w, run_append_empty ty ad ad2 c w, Or.inr ⟨ad, rfl, rfl⟩, Below.refl _ _⟩
      | cons s m =>
        obtain ⟨v', w', hr, h2, h3⟩ := run_append_arg_grows (P := Tryd.prog) w 37 ty 9 i0 (.string ⟨#[]⟩) 1 16 Tryd.underlying37 hi hz0 hz1 hz2 rfl (by decide) ad 0 0 [] rfl (fun j u hj => by simp at hj) ad2 (s :: m).length c ((s :: m).map .string) (by simp) hc (by simp) (by unfold maxLen; omega) (by omega)
        exact ⟨v', w', hr, App.base (own_append (l := []) (by simpa using h2)) hB, (Below.refl _ _).grown h3 hB (fun k hk => by cases hk)⟩

theorem step_append_app {ops : Array Oper} {o : Oper} {a : Act} {w : World} {K : Act → World → Prop} {Q : Exit → Act → World → Prop} {E : Prop}
    (hg : o.guard = none) (s x : Operand) (hop : o.op = Op.call { callee := Callee.builtin Builtin.append, args := #[s, x], argTypes := #[37, 37] })
    (B : Nat) (l m : List ByteArray) (v y : Value) (hs : a.eval s = v) (hx : a.eval x = y) (hv : App w B l v) (hy : Env w m y) (hl : l.length ≤ 1000) (hm : m.length ≤ 1000) (hB : B ≤ w.heap.size)
    (hK : ∀ v' w', App w' B (l ++ m) v' → Below B w w' → K (a.put o.dst v') w') :
    if Region.wanted o (yielded ops a.tmps) = true then Oper.wp Tryd.prog o a w K Q else E := by
  have hw : Region.wanted o (yielded ops a.tmps) = true := by simp [Region.wanted, hg]
  rw [if_pos hw]
  obtain ⟨v', w', hrun, r1, r2⟩ := run_append_app o.type w B l m v y hv hy hl hm hB
  unfold Oper.wp
  simp [execOp, hop, resolve, invoke, builtin, hs, hx, hrun, Result.andThen]
  exact hK v' w' r1 r2

theorem below_al {w w1 : World} {o : Obj} (h : Below w.heap.size w w1) : Below w.heap.size w (w1.alloc o) := h.alloc h.size o
theorem below_al0 (w : World) (o : Obj) : Below w.heap.size w (w.alloc o) := (Below.refl _ _).alloc (Nat.le_refl _) o
theorem below_pre {w1 w2 : World} {o : Obj} (h : Below (w1.alloc o).heap.size (w1.alloc o) w2) : Below w1.heap.size w1 w2 := (below_al0 w1 o).trans (h.mono (by simp))
theorem below_next {w w1 w2 : World} (h : Below w.heap.size w w1) (h2 : Below w1.heap.size w1 w2) : Below w.heap.size w w2 := h.trans (h2.mono h.size)
theorem below_nextB {w w1 w2 : World} {B : Nat} (h : Below w.heap.size w w1) (hB : w.heap.size ≤ B) (h2 : Below B w1 w2) : Below w.heap.size w w2 := h.trans (h2.mono hB)
theorem below_base {w w1 w2 : World} (h : Below w.heap.size w w1) (_ : Below w1.heap.size w1 w2) : w.heap.size ≤ w1.heap.size := h.size
theorem size_al (w : World) (o : Obj) : w.heap.size ≤ (w.alloc o).heap.size := by simp
end Go.Proofs.YtkjppjhmejkidaaDoor

namespace Go.Proofs.YtkjppjhmejkidaaDoor
open Go.RowKit

/-- The level of an op. -/
def opLevel (u : Int) : Int := if u = 1 ∨ u = 2 then 3 else if u = 3 ∨ u = 4 then 4 else 1
/-- The level of an expression of a kind. -/
def levelN (k u : Int) : Int :=
  if k = 4 ∨ k = 6 ∨ k = 7 ∨ k = 8 ∨ k = 14 then 0
  else if k = 13 then 2
  else if k = 15 then opLevel u
  else if k = 5 ∨ k = 10 ∨ k = 11 ∨ k = 16 ∨ k = 17 ∨ k = 20 ∨ k = 21 then 5 else 6
/-- A rule as a value. -/
abbrev ruleV (n k l m v : Int) : Value := .agg #[.int .i64 n, .int .i64 k, .int .i64 l, .int .i64 m, .int .i64 v]

theorem below2 (w : World) (o1 o2 : Obj) : Below w.heap.size w ((w.alloc o1).alloc o2) := ((Below.refl _ _).alloc (Nat.le_refl _) o1).alloc (by simp) o2

set_option maxHeartbeats 400000 in
theorem impl_levelOfOp (u : Int) (w : World) :
    Calls Tryd.prog 110 #[.int .i64 u] w fun r w' => r = .returned (.int .i64 (opLevel u)) ∧ w = w' := by
  have hc : (u = 1 ∨ u = 2 ∨ u = 3 ∨ u = 4) ∨ u < 1 ∨ 4 < u := by omega
  have hlow : u < 1 ∨ 4 < u → opLevel u = 1 := fun h => by unfold opLevel; rw [if_neg (by omega), if_neg (by omega)]
  rcases hc with (rfl | rfl | rfl | rfl) | h | h
  case inr.inl =>
    rw [hlow (Or.inl h)]
    go_enter Tryd.func110, Tryd.ntmps110
    go_wp2_with fail
    go_ret
    exact ⟨rfl, rfl⟩
  case inr.inr =>
    rw [hlow (Or.inr h)]
    go_enter Tryd.func110, Tryd.ntmps110
    go_wp2_with fail
    go_ret
    exact ⟨rfl, rfl⟩
  all_goals
    go_enter Tryd.func110, Tryd.ntmps110
    go_wp2_with fail
    go_ret
    exact ⟨rfl, rfl⟩

set_option maxHeartbeats 400000 in
theorem rule_numForm (k : Int) (a b : ByteArray) (u : Int) (s : Value) (w : World) :
    Calls Tryd.prog 86 #[.agg #[.int .i64 k, .string a, .string b, .int .i64 u, s]] w fun r w' => r = .returned (ruleV 0 0 0 999999 6) ∧ Below w.heap.size w w' := by
  go_enter Tryd.func86, Tryd.ntmps86
  go_wp2_with fail
  exact bodyPost_ret (v := ruleV 0 0 0 999999 6) (by simp [results, Tryd.results86, go_sem]) rfl ⟨rfl, below2 _ _ _⟩

set_option maxHeartbeats 400000 in
theorem rule_boolForm (k : Int) (a b : ByteArray) (u : Int) (s : Value) (w : World) :
    Calls Tryd.prog 88 #[.agg #[.int .i64 k, .string a, .string b, .int .i64 u, s]] w fun r w' => r = .returned (ruleV 0 0 0 1 6) ∧ Below w.heap.size w w' := by
  go_enter Tryd.func88, Tryd.ntmps88
  go_wp2_with fail
  exact bodyPost_ret (v := ruleV 0 0 0 1 6) (by simp [results, Tryd.results88, go_sem]) rfl ⟨rfl, below2 _ _ _⟩

set_option maxHeartbeats 400000 in
theorem rule_varForm (k : Int) (a b : ByteArray) (u : Int) (s : Value) (w : World) :
    Calls Tryd.prog 90 #[.agg #[.int .i64 k, .string a, .string b, .int .i64 u, s]] w fun r w' => r = .returned (ruleV 1 0 0 0 6) ∧ Below w.heap.size w w' := by
  go_enter Tryd.func90, Tryd.ntmps90
  go_wp2_with fail
  exact bodyPost_ret (v := ruleV 1 0 0 0 6) (by simp [results, Tryd.results90, go_sem]) rfl ⟨rfl, below2 _ _ _⟩

set_option maxHeartbeats 400000 in
theorem rule_funForm (k : Int) (a b : ByteArray) (u : Int) (s : Value) (w : World) :
    Calls Tryd.prog 92 #[.agg #[.int .i64 k, .string a, .string b, .int .i64 u, s]] w fun r w' => r = .returned (ruleV 1 1 0 0 0) ∧ Below w.heap.size w w' := by
  go_enter Tryd.func92, Tryd.ntmps92
  go_wp2_with fail
  exact bodyPost_ret (v := ruleV 1 1 0 0 0) (by simp [results, Tryd.results92, go_sem]) rfl ⟨rfl, below2 _ _ _⟩

set_option maxHeartbeats 400000 in
theorem rule_appForm (k : Int) (a b : ByteArray) (u : Int) (s : Value) (w : World) :
    Calls Tryd.prog 94 #[.agg #[.int .i64 k, .string a, .string b, .int .i64 u, s]] w fun r w' => r = .returned (ruleV 0 2 0 0 5) ∧ Below w.heap.size w w' := by
  go_enter Tryd.func94, Tryd.ntmps94
  go_wp2_with fail
  exact bodyPost_ret (v := ruleV 0 2 0 0 5) (by simp [results, Tryd.results94, go_sem]) rfl ⟨rfl, below2 _ _ _⟩

set_option maxHeartbeats 400000 in
theorem rule_letForm (k : Int) (a b : ByteArray) (u : Int) (s : Value) (w : World) :
    Calls Tryd.prog 96 #[.agg #[.int .i64 k, .string a, .string b, .int .i64 u, s]] w fun r w' => r = .returned (ruleV 1 2 0 0 0) ∧ Below w.heap.size w w' := by
  go_enter Tryd.func96, Tryd.ntmps96
  go_wp2_with fail
  exact bodyPost_ret (v := ruleV 1 2 0 0 0) (by simp [results, Tryd.results96, go_sem]) rfl ⟨rfl, below2 _ _ _⟩

set_option maxHeartbeats 400000 in
theorem rule_recForm (k : Int) (a b : ByteArray) (u : Int) (s : Value) (w : World) :
    Calls Tryd.prog 98 #[.agg #[.int .i64 k, .string a, .string b, .int .i64 u, s]] w fun r w' => r = .returned (ruleV 2 2 0 0 0) ∧ Below w.heap.size w w' := by
  go_enter Tryd.func98, Tryd.ntmps98
  go_wp2_with fail
  exact bodyPost_ret (v := ruleV 2 2 0 0 0) (by simp [results, Tryd.results98, go_sem]) rfl ⟨rfl, below2 _ _ _⟩

set_option maxHeartbeats 400000 in
theorem rule_ifForm (k : Int) (a b : ByteArray) (u : Int) (s : Value) (w : World) :
    Calls Tryd.prog 100 #[.agg #[.int .i64 k, .string a, .string b, .int .i64 u, s]] w fun r w' => r = .returned (ruleV 0 3 0 0 0) ∧ Below w.heap.size w w' := by
  go_enter Tryd.func100, Tryd.ntmps100
  go_wp2_with fail
  exact bodyPost_ret (v := ruleV 0 3 0 0 0) (by simp [results, Tryd.results100, go_sem]) rfl ⟨rfl, below2 _ _ _⟩

set_option maxHeartbeats 400000 in
theorem rule_pairForm (k : Int) (a b : ByteArray) (u : Int) (s : Value) (w : World) :
    Calls Tryd.prog 102 #[.agg #[.int .i64 k, .string a, .string b, .int .i64 u, s]] w fun r w' => r = .returned (ruleV 0 2 0 0 6) ∧ Below w.heap.size w w' := by
  go_enter Tryd.func102, Tryd.ntmps102
  go_wp2_with fail
  exact bodyPost_ret (v := ruleV 0 2 0 0 6) (by simp [results, Tryd.results102, go_sem]) rfl ⟨rfl, below2 _ _ _⟩

set_option maxHeartbeats 400000 in
theorem rule_consForm (k : Int) (a b : ByteArray) (u : Int) (s : Value) (w : World) :
    Calls Tryd.prog 104 #[.agg #[.int .i64 k, .string a, .string b, .int .i64 u, s]] w fun r w' => r = .returned (ruleV 0 2 0 0 2) ∧ Below w.heap.size w w' := by
  go_enter Tryd.func104, Tryd.ntmps104
  go_wp2_with fail
  exact bodyPost_ret (v := ruleV 0 2 0 0 2) (by simp [results, Tryd.results104, go_sem]) rfl ⟨rfl, below2 _ _ _⟩

set_option maxHeartbeats 400000 in
theorem rule_caseForm (k : Int) (a b : ByteArray) (u : Int) (s : Value) (w : World) :
    Calls Tryd.prog 106 #[.agg #[.int .i64 k, .string a, .string b, .int .i64 u, s]] w fun r w' => r = .returned (ruleV 2 3 0 0 0) ∧ Below w.heap.size w w' := by
  go_enter Tryd.func106, Tryd.ntmps106
  go_wp2_with fail
  exact bodyPost_ret (v := ruleV 2 3 0 0 0) (by simp [results, Tryd.results106, go_sem]) rfl ⟨rfl, below2 _ _ _⟩

set_option maxHeartbeats 400000 in
theorem rule_wordForm (k : Int) (a b : ByteArray) (u : Int) (s : Value) (w : World) :
    Calls Tryd.prog 111 #[.agg #[.int .i64 k, .string a, .string b, .int .i64 u, s]] w fun r w' => r = .returned (ruleV 0 0 0 0 6) ∧ Below w.heap.size w w' := by
  go_enter Tryd.func111, Tryd.ntmps111
  go_wp2_with fail
  exact bodyPost_ret (v := ruleV 0 0 0 0 6) (by simp [results, Tryd.results111, go_sem]) rfl ⟨rfl, below2 _ _ _⟩

set_option maxHeartbeats 400000 in
theorem rule_opForm (k : Int) (a b : ByteArray) (u : Int) (s : Value) (w : World) :
    Calls Tryd.prog 108 #[.agg #[.int .i64 k, .string a, .string b, .int .i64 u, s]] w fun r w' => r = .returned (ruleV 0 2 1 6 (opLevel u)) ∧ Below w.heap.size w w' := by
  go_enter Tryd.func108, Tryd.ntmps108
  go_wp2_with (go_at_call 110; refine (impl_levelOfOp _ _).mono ?_; rintro r w' ⟨rfl, rfl⟩)
  exact bodyPost_ret (v := ruleV 0 2 1 6 (opLevel u)) (by simp [results, Tryd.results108, go_sem]) rfl ⟨rfl, below2 _ _ _⟩

set_option maxHeartbeats 400000 in
theorem rule_headForm (k : Int) (a b : ByteArray) (u : Int) (s : Value) (w : World) (hk : (k == 17) = false) :
    Calls Tryd.prog 113 #[.agg #[.int .i64 k, .string a, .string b, .int .i64 u, s]] w fun r w' => r = .returned (ruleV 0 1 0 0 5) ∧ Below w.heap.size w w' := by
  go_enter Tryd.func113, Tryd.ntmps113
  go_wp2_with fail
  exact bodyPost_ret (v := ruleV 0 1 0 0 5) (by simp [results, Tryd.results113, go_sem]) rfl ⟨rfl, below2 _ _ _⟩

set_option maxHeartbeats 400000 in
theorem rule_headForm2 (a b : ByteArray) (u : Int) (s : Value) (w : World) :
    Calls Tryd.prog 113 #[.agg #[.int .i64 17, .string a, .string b, .int .i64 u, s]] w fun r w' => r = .returned (ruleV 0 2 0 0 5) ∧ Below w.heap.size w w' := by
  go_enter Tryd.func113, Tryd.ntmps113
  go_wp2_with fail
  exact bodyPost_ret (v := ruleV 0 2 0 0 5) (by simp [results, Tryd.results113, go_sem]) rfl ⟨rfl, below2 _ _ _⟩
end Go.Proofs.YtkjppjhmejkidaaDoor

namespace Go.Proofs.YtkjppjhmejkidaaDoor
open Go.RowKit

/-- The table of words lies where the program's text lays it. -/
def Tab (w : World) : Prop := ∃ t fr, w.heap[0]? = some (.cells wordVals t fr)
theorem Tab.pos {w : World} (h : Tab w) : 0 < w.heap.size := by
  obtain ⟨t, fr, h⟩ := h
  exact (Array.getElem?_eq_some_iff.1 h).1
theorem Tab.below {w w' : World} {B : Nat} (h : Tab w) (hb : Below B w w') (hB : 0 < B) : Tab w' := by
  obtain ⟨t, fr, h⟩ := h
  exact ⟨t, fr, (hb.block _ hB).trans h⟩
theorem Tab.alloc {w : World} (h : Tab w) (o : Obj) : Tab (w.alloc o) := h.below ((Below.refl w.heap.size w).alloc (Nat.le_refl _) o) h.pos
theorem nameOk_tab (s : ByteArray) (w : World) (hs : s.size ≤ maxLen) (h : Tab w) :
    Calls Tryd.prog 56 #[.string s] w fun e w' => e = .returned (.bool (nameB s)) ∧ w = w' := by
  obtain ⟨t, fr, h⟩ := h
  exact impl_NameOk s w hs t fr h

set_option maxHeartbeats 400000 in
theorem namesFit0 (k : Int) (a b : ByteArray) (u : Int) (s : Value) (w : World) :
    Calls Tryd.prog 51 #[.agg #[.int .i64 k, .string a, .string b, .int .i64 u, s], .int .i64 0] w fun r w' => r = .returned (.bool (namesC 0 a b)) ∧ Below w.heap.size w w' := by
  go_enter Tryd.func51, Tryd.ntmps51
  go_wp2_with fail
  · go_ret
    exact ⟨ret_bool (by simp [namesC, ‹a.toList = []›]), (Below.refl _ _).alloc (Nat.le_refl _) _⟩
  · go_ret
    exact ⟨ret_bool (by simp [namesC, ‹¬ a.toList = []›]), (Below.refl _ _).alloc (Nat.le_refl _) _⟩

set_option maxHeartbeats 400000 in
theorem namesFit1 (k : Int) (a b : ByteArray) (u : Int) (s : Value) (w : World) (ha : a.size ≤ maxLen) (hT : Tab w) :
    Calls Tryd.prog 51 #[.agg #[.int .i64 k, .string a, .string b, .int .i64 u, s], .int .i64 1] w fun r w' => r = .returned (.bool (namesC 1 a b)) ∧ Below w.heap.size w w' := by
  have hT' := hT.alloc
  cases hna : nameB a
  all_goals
    go_enter Tryd.func51, Tryd.ntmps51
    go_wp2_with (go_at_call 56; refine (nameOk_tab _ _ ha (hT' _)).mono ?_; rintro r w2 ⟨rfl, rfl⟩; rw [hna])
    go_ret
    exact ⟨ret_bool (by simp [namesC, hna]), (Below.refl _ _).alloc (Nat.le_refl _) _⟩

set_option maxHeartbeats 400000 in
theorem namesFit2 (k : Int) (a b : ByteArray) (u : Int) (s : Value) (w : World) (ha : a.size ≤ maxLen) (hb : b.size ≤ maxLen) (hT : Tab w) :
    Calls Tryd.prog 51 #[.agg #[.int .i64 k, .string a, .string b, .int .i64 u, s], .int .i64 2] w fun r w' => r = .returned (.bool (namesC 2 a b)) ∧ Below w.heap.size w w' := by
  have hT' := hT.alloc
  cases hna : nameB a
  · go_enter Tryd.func51, Tryd.ntmps51
    go_wp2_with (go_at_call 56; refine (nameOk_tab _ _ ha (hT' _)).mono ?_; rintro r w2 ⟨rfl, rfl⟩; rw [hna])
    go_ret
    exact ⟨ret_bool (by simp [namesC, hna]), (Below.refl _ _).alloc (Nat.le_refl _) _⟩
  cases hnb : nameB b
  all_goals
    go_enter Tryd.func51, Tryd.ntmps51
    go_wp2_with (go_at_call 56; refine (nameOk_tab _ _ (by first | exact ha | exact hb) (hT' _)).mono ?_; rintro r w2 ⟨rfl, rfl⟩; first | rw [hna] | rw [hnb])
    go_ret
    exact ⟨ret_bool (by rw [namesC, hna, hnb]; rfl), (Below.refl _ _).alloc (Nat.le_refl _) _⟩
end Go.Proofs.YtkjppjhmejkidaaDoor

