/-
  The program's likeUnder.
-/
import Derived.Test.YtmjbfenjalmnlaaDoorNkMath
import Derived.Test.YtmjbfenjalmnlaaDoorNkClone
import Derived.Test.YtmjbfenjalmnlaaDoorExBox
import Derived.Deep.RegionHeld3
namespace Go.Proofs.YtmjbfenjalmnlaaDoor
open Go.RowKit

/-- What likeUnder does with an expression and another one. -/
def ImplLike (x : Ex) : Prop := ∀ (y : Ex) (w : World) (s t vx vy : Value) (xs ys : List ByteArray) (d : Int), x.Wee → y.Wee → Lies w (· < w.heap.size) x.kids s → Lies w (· < w.heap.size) y.kids t → Env w xs vx → Env w ys vy → sizeM x d ≤ 60 → 0 ≤ d → (xs.length : Int) ≤ 2 * d → (ys.length : Int) ≤ 2 * d →
  Calls Tryd.prog 14 #[x.val s, y.val t, vx, vy] w fun r w' => r = .returned (.bool (likeM lastF x y xs ys)) ∧ Below w.heap.size w w'

theorem two_first {w wr : World} {o1 o2 : Obj} (h : Below (w.heap.size + 1 + 1) ((w.alloc o1).alloc o2) wr) : Below (w.heap.size + 1) (w.alloc o1) wr :=
  ((Below.refl _ _).alloc (by simp) o2).trans (h.mono (by omega))

theorem two_second {w wr : World} {o1 o2 : Obj} (h : Below (w.heap.size + 1 + 1) ((w.alloc o1).alloc o2) wr) : Below ((w.alloc o1).heap.size + 1) ((w.alloc o1).alloc o2) wr := by simpa using h

set_option maxHeartbeats 600000 in
theorem like_walk (x : Ex) (ih : ∀ e ∈ x.kids, ImplLike e) : ImplLike x := by
  intro y w s t vx vy xs ys d hwx hwy hvs hvt hex hey hsz hd0 hxd hyd
  obtain ⟨hd14, hparts⟩ := sizeM_parts x d hsz
  obtain ⟨_, hkx, hwx'⟩ := hwx
  obtain ⟨_, hky, hwy'⟩ := hwy
  obtain ⟨ads, caps, rfl⟩ := hvs.slice
  obtain ⟨adt, capt, rfl⟩ := hvt.slice
  have hb2 : ∀ o1 o2, Below w.heap.size w ((w.alloc o1).alloc o2) := below_two w
  have hM := likeM_eq lastF x y xs ys
  by_cases hk : x.kind = y.kind
  case neg =>
    have HF : Hid (likeM lastF x y xs ys = false) := by show _ = _; rw [hM, if_pos (Or.inl hk)]
    have hk' : (x.kind != y.kind) = true := by simpa using hk
    clear hM hk
    go_enter Tryd.func14, Tryd.ntmps14
    go_wp2_with fail
    go_ret
    exact ⟨ret_bool HF.out.symm, hb2 _ _⟩
  have hk' : (x.kind != y.kind) = false := by simpa using hk
  by_cases hu : x.num = y.num
  case neg =>
    have HF : Hid (likeM lastF x y xs ys = false) := by show _ = _; rw [hM, if_pos (Or.inr (Or.inl hu))]
    have hu' : (x.num != y.num) = true := by simpa using hu
    clear hM hk hu
    go_enter Tryd.func14, Tryd.ntmps14
    go_wp2_with fail
    go_ret
    exact ⟨ret_bool HF.out.symm, hb2 _ _⟩
  have hu' : (x.num != y.num) = false := by simpa using hu
  by_cases hn : x.kids.length = y.kids.length
  case neg =>
    have HF : Hid (likeM lastF x y xs ys = false) := by show _ = _; rw [hM, if_pos (Or.inr (Or.inr hn))]
    have hn' : ((x.kids.length : Int) != (y.kids.length : Int)) = true := by simp; omega
    clear hM hk hu hn
    go_enter Tryd.func14, Tryd.ntmps14
    go_wp2_with fail
    go_ret
    exact ⟨ret_bool HF.out.symm, hb2 _ _⟩
  have hn' : ((x.kids.length : Int) != (y.kids.length : Int)) = false := by simp; omega
  rw [if_neg (by rintro (h | h | h); exact h hk; exact h hu; exact h hn)] at hM
  have HN : Hid (x.kids.length = y.kids.length) := hn
  clear hk hu hn
  by_cases h3 : x.kind = 3
  · rw [if_pos h3] at hM
    have HM : Hid (likeM lastF x y xs ys = ((lastF xs x.name == lastF ys y.name) && (decide (0 ≤ lastF xs x.name) || (x.name.toList == y.name.toList)))) := hM
    have h3' : (x.kind == 3) = true := by simpa using h3
    clear hM h3
    have hlx := fun w' hw' => impl_lastPlace xs x.name vx w' (by omega) (hex.keep hw')
    have hly := fun w' hw' => impl_lastPlace ys y.name vy w' (by omega) (hey.keep hw')
    go_enter Tryd.func14, Tryd.ntmps14
    go_wp2_with (first | (go_at_call_of 20 vx; refine (hlx _ (hb2 _ _)).mono ?_; rintro r w2 ⟨rfl, rfl⟩) | (go_at_call_of 20 vy; refine (hly _ (hb2 _ _)).mono ?_; rintro r w2 ⟨rfl, rfl⟩))
    · go_ret
      exact ⟨ret_bool (by rw [HM.out]; unfold lastF; simp [‹lastTo xs x.name xs.length = lastTo ys y.name ys.length›]), hb2 _ _⟩
    · go_ret
      exact ⟨ret_bool (by rw [HM.out]; unfold lastF; simp [‹lastTo xs x.name xs.length = lastTo ys y.name ys.length›, ‹0 ≤ lastTo ys y.name ys.length›]), hb2 _ _⟩
    · go_ret
      exact ⟨ret_bool (by rw [HM.out]; unfold lastF; simp [‹¬ lastTo xs x.name xs.length = lastTo ys y.name ys.length›]), hb2 _ _⟩
  · rw [if_neg h3] at hM
    have HM : Hid (likeM lastF x y xs ys = likeAll lastF (x.kids.drop 0) (y.kids.drop 0) 0 (fun i => xs ++ x.bindsAt i) (fun i => ys ++ y.bindsAt i)) := hM
    have h3' : (x.kind == 3) = false := by simpa using h3
    clear hM h3
    go_enter Tryd.func14, Tryd.ntmps14
    go_wp2_with fail
    go_loopw [59] (fun i wr => ∃ k : Nat, k ≤ x.kids.length ∧ i = .int .i64 k ∧ Hid (likeM lastF x y xs ys = likeAll lastF (x.kids.drop k) (y.kids.drop k) k (fun i => xs ++ x.bindsAt i) (fun i => ys ++ y.bindsAt i)) ∧ Below (w.heap.size + 1 + 1) ((w.alloc (.cells #[.int .i64 x.kind, .string x.name, .string x.tail, .int .i64 x.num, .slice ads x.kids.length caps] 29)).alloc (.cells #[.int .i64 y.kind, .string y.name, .string y.tail, .int .i64 y.num, .slice adt y.kids.length capt] 29)) wr) (fun i _ => x.kids.length - (intOf i).toNat)
    case atStart => exact ⟨0, by omega, rfl, HM, Below.refl _ _⟩
    case round =>
      obtain ⟨k, hkl, rfl, HE, hB⟩ := hrel
      have hN := HN.out
      have hBy := two_second hB
      have hBx := two_first hB
      have hbw := below_of_box hBx
      obtain ⟨p0, p1, p2, p3, p4⟩ := box5 hBx
      have q := box5 hBy
      simp only [World.size_alloc] at q
      obtain ⟨q0, q1, q2, q3, q4⟩ := q
      by_cases hlt : k < x.kids.length
      · have hlt2 : k < y.kids.length := by omega
        clear hN
        obtain ⟨bx, ox, capx, s1, hSx, hslx, hrx, hlx⟩ := hvs.at (List.getElem?_eq_getElem hlt)
        obtain ⟨rfl, rfl⟩ : ads = some ⟨bx, ox, none⟩ ∧ caps = capx := by simpa using hslx
        obtain ⟨by1, oy, capy, t1, hSy, hsly, hry, hly⟩ := hvt.at (List.getElem?_eq_getElem hlt2)
        obtain ⟨rfl, rfl⟩ : adt = some ⟨by1, oy, none⟩ ∧ capt = capy := by simpa using hsly
        obtain ⟨c0, c1, c2, c3, c4⟩ := Ex.five (rangeAt_same (hbw.block bx hSx) hrx)
        obtain ⟨e0, e1, e2, e3, e4⟩ := Ex.five (rangeAt_same (hbw.block by1 hSy) hry)
        have hzw := hB.size
        simp at hzw
        have hzz := hbw.size
        have HS : ∀ w', Below wr.heap.size wr w' → (w'.cell? ⟨w.heap.size, 0, none⟩ = some (.int .i64 x.kind) ∧ w'.cell? ⟨w.heap.size, 1, none⟩ = some (.string x.name) ∧ w'.cell? ⟨w.heap.size, 2, none⟩ = some (.string x.tail) ∧ w'.cell? ⟨w.heap.size, 3, none⟩ = some (.int .i64 x.num) ∧ w'.cell? ⟨w.heap.size, 4, none⟩ = some (.slice (some ⟨bx, ox, none⟩) x.kids.length caps) ∧ w'.cell? ⟨w.heap.size + 1, 0, none⟩ = some (.int .i64 y.kind) ∧ w'.cell? ⟨w.heap.size + 1, 1, none⟩ = some (.string y.name) ∧ w'.cell? ⟨w.heap.size + 1, 2, none⟩ = some (.string y.tail) ∧ w'.cell? ⟨w.heap.size + 1, 3, none⟩ = some (.int .i64 y.num) ∧ w'.cell? ⟨w.heap.size + 1, 4, none⟩ = some (.slice (some ⟨by1, oy, none⟩) y.kids.length capt) ∧ w'.cell? ⟨bx, ox + k * 5, none⟩ = some (.int .i64 x.kids[k].kind) ∧ w'.cell? ⟨bx, ox + k * 5 + 1, none⟩ = some (.string x.kids[k].name) ∧ w'.cell? ⟨bx, ox + k * 5 + 2, none⟩ = some (.string x.kids[k].tail) ∧ w'.cell? ⟨bx, ox + k * 5 + 3, none⟩ = some (.int .i64 x.kids[k].num) ∧ w'.cell? ⟨bx, ox + k * 5 + 4, none⟩ = some (s1) ∧ w'.cell? ⟨by1, oy + k * 5, none⟩ = some (.int .i64 y.kids[k].kind) ∧ w'.cell? ⟨by1, oy + k * 5 + 1, none⟩ = some (.string y.kids[k].name) ∧ w'.cell? ⟨by1, oy + k * 5 + 2, none⟩ = some (.string y.kids[k].tail) ∧ w'.cell? ⟨by1, oy + k * 5 + 3, none⟩ = some (.int .i64 y.kids[k].num) ∧ w'.cell? ⟨by1, oy + k * 5 + 4, none⟩ = some (t1)) := fun w' hb' => by
          refine ⟨?_, ?_, ?_, ?_, ?_, ?_, ?_, ?_, ?_, ?_, ?_, ?_, ?_, ?_, ?_, ?_, ?_, ?_, ?_, ?_⟩
          all_goals (rw [hb'.cell (by dsimp only; omega)]; assumption)
        have hlx' := hlx.keep hbw hbw.size
        have hly' := hly.keep hbw hbw.size
        have hex' := (hex.keep hbw).drew
        have hey' := (hey.keep hbw).drew
        have hi1 : (k : Int) < (x.kids.length : Int) := by omega
        have hi2 : (k : Int) < (y.kids.length : Int) := by omega
        have hd1 : Below wr.heap.size wr wr.drew := (Below.refl _ _).drew
        have hih := ih x.kids[k] (List.getElem_mem hlt) y.kids[k]
        have hwk1 := hwx' x.kids[k] (List.getElem_mem hlt)
        have hwk2 := hwy' y.kids[k] (List.getElem_mem hlt2)
        have hsk := hparts x.kids[k] (List.getElem_mem hlt)
        have HX : Hid (likeAll lastF (x.kids.drop k) (y.kids.drop k) k (fun i => xs ++ x.bindsAt i) (fun i => ys ++ y.bindsAt i) = _) := likeAll_drop lastF x.kids y.kids k _ _ k hlt hlt2
        clear hrx hlx hslx hry hly hsly HN
        go_wp2_with fail
        go_region_held3 (fun w' => w'.cell? ⟨w.heap.size, 0, none⟩ = some (.int .i64 x.kind) ∧ w'.cell? ⟨w.heap.size, 1, none⟩ = some (.string x.name) ∧ w'.cell? ⟨w.heap.size, 2, none⟩ = some (.string x.tail) ∧ w'.cell? ⟨w.heap.size, 3, none⟩ = some (.int .i64 x.num) ∧ w'.cell? ⟨w.heap.size, 4, none⟩ = some (.slice (some ⟨bx, ox, none⟩) x.kids.length caps) ∧ w'.cell? ⟨w.heap.size + 1, 0, none⟩ = some (.int .i64 y.kind) ∧ w'.cell? ⟨w.heap.size + 1, 1, none⟩ = some (.string y.name) ∧ w'.cell? ⟨w.heap.size + 1, 2, none⟩ = some (.string y.tail) ∧ w'.cell? ⟨w.heap.size + 1, 3, none⟩ = some (.int .i64 y.num) ∧ w'.cell? ⟨w.heap.size + 1, 4, none⟩ = some (.slice (some ⟨by1, oy, none⟩) y.kids.length capt) ∧ w'.cell? ⟨bx, ox + k * 5, none⟩ = some (.int .i64 x.kids[k].kind) ∧ w'.cell? ⟨bx, ox + k * 5 + 1, none⟩ = some (.string x.kids[k].name) ∧ w'.cell? ⟨bx, ox + k * 5 + 2, none⟩ = some (.string x.kids[k].tail) ∧ w'.cell? ⟨bx, ox + k * 5 + 3, none⟩ = some (.int .i64 x.kids[k].num) ∧ w'.cell? ⟨bx, ox + k * 5 + 4, none⟩ = some (s1) ∧ w'.cell? ⟨by1, oy + k * 5, none⟩ = some (.int .i64 y.kids[k].kind) ∧ w'.cell? ⟨by1, oy + k * 5 + 1, none⟩ = some (.string y.kids[k].name) ∧ w'.cell? ⟨by1, oy + k * 5 + 2, none⟩ = some (.string y.kids[k].tail) ∧ w'.cell? ⟨by1, oy + k * 5 + 3, none⟩ = some (.int .i64 y.kids[k].num) ∧ w'.cell? ⟨by1, oy + k * 5 + 4, none⟩ = some (t1))
          (first | exact HS _ hc3 | exact HS _ hc2 | exact HS _ hc1 | exact HS _ hd1)
          (first
            | (go_at_call_of 21 vx; refine (impl_under _ _ _ _ _ _ xs _ _ (by omega) hex').mono ?_; rintro r w2 ⟨v1, rfl, he1, hb1⟩; have hc1 := hd1.trans hb1)
            | (go_at_call_of 21 vy; refine (impl_under _ _ _ _ _ _ ys _ _ (by omega) (hey'.keep hb1)).mono ?_; rintro r w3 ⟨v2, rfl, he2, hb3⟩; have hc2 := hc1.trans (hb3.mono hc1.size))
            | (go_at_call 14; refine (hih _ _ _ _ _ (xs ++ x.bindsAt k) (ys ++ y.bindsAt k) (d + 1) hwk1 hwk2 (hlx'.keep hc2 hc2.size) (hly'.keep hc2 hc2.size) (he1.keep hb3) he2 hsk (by omega) ?_ ?_).mono ?_; (have := bindsL_two x.kind x.name x.tail k; simp [Ex.bindsAt]; omega); (have := bindsL_two y.kind y.name y.tail k; simp [Ex.bindsAt]; omega); rintro r w4 ⟨rfl, hb4⟩; have hc3 := hc2.trans (hb4.mono hc2.size)))
        clear HS p0 p1 p2 p3 p4 q0 q1 q2 q3 q4 c0 c1 c2 c3 c4 e0 e1 e2 e3 e4
        cases hlk : likeM lastF x.kids[k] y.kids[k] (xs ++ x.bindsAt k) (ys ++ y.bindsAt k)
        · go_wp2_with fail
          go_ret
          exact ⟨ret_bool (by rw [HE.out, HX.out, hlk]; rfl), hbw.trans (hc3.mono hbw.size)⟩
        · go_wp2_with fail
          go_roundw
          case rel => exact ⟨k + 1, by omega, by go_num, by show _ = _; rw [HE.out, HX.out, hlk, Bool.true_and]; rfl, hB.trans (hc3.mono (by omega))⟩
          case measure => simp [intOf]; omega
      · go_wp2_with fail
        go_ret
        exact ⟨ret_bool (by rw [HE.out, likeAll_end _ _ _ _ _ _ k (by omega)]), hbw⟩

theorem impl_likeUnder (x : Ex) : ImplLike x := by
  induction x using Ex.ind with
  | h x ih => exact like_walk x ih
end Go.Proofs.YtmjbfenjalmnlaaDoor
