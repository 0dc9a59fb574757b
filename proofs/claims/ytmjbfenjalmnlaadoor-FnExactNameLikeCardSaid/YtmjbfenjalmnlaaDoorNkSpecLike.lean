/-
  The specification's l3Like.
-/
import Derived.Test.YtmjbfenjalmnlaaDoorNkMath
import Derived.Test.YtmjbfenjalmnlaaDoorNkAt
import Derived.Test.YtmjbfenjalmnlaaDoorNkStep
import Derived.Test.YtmjbfenjalmnlaaDoorNkLike
namespace Go.Proofs.YtmjbfenjalmnlaaDoor
open Go.RowKit

/-- What l3Like does with an expression and another one. -/
def SpecLike (x : Ex) : Prop := ∀ (y : Ex) (w : World) (s t vx vy : Value) (xs ys : List ByteArray) (d : Int), x.Wee → y.Wee → Lies w (· < w.heap.size) x.kids s → Lies w (· < w.heap.size) y.kids t → Env w xs vx → Env w ys vy → sizeM x d ≤ 60 → 0 ≤ d → (xs.length : Int) ≤ 2 * d → (ys.length : Int) ≤ 2 * d →
  Calls Tryd.prog 11 #[x.val s, y.val t, vx, vy] w fun r w' => r = .returned (.bool (likeM atB x y xs ys)) ∧ Below w.heap.size w w'

set_option maxHeartbeats 2000000 in
theorem l3_walk (x : Ex) (ih : ∀ e ∈ x.kids, SpecLike e) : SpecLike x := by
  intro y w s t vx vy xs ys d hwx hwy hvs hvt hex hey hsz hd0 hxd hyd
  obtain ⟨hd14, hparts⟩ := sizeM_parts x d hsz
  obtain ⟨_, hkx, hwx'⟩ := hwx
  obtain ⟨_, hky, hwy'⟩ := hwy
  obtain ⟨ads, caps, rfl⟩ := hvs.slice
  obtain ⟨adt, capt, rfl⟩ := hvt.slice
  have hb2 : ∀ o1 o2, Below w.heap.size w ((w.alloc o1).alloc o2) := below_two w
  have hM := likeM_eq atB x y xs ys
  by_cases hk : x.kind = y.kind
  case neg =>
    have HF : Hid (likeM atB x y xs ys = false) := by show _ = _; rw [hM, if_pos (Or.inl hk)]
    have hk' : (x.kind != y.kind) = true := by simpa using hk
    clear hM hk
    go_enter Tryd.func11, Tryd.ntmps11
    go_wp2_with fail
    go_ret
    exact ⟨ret_bool HF.out.symm, hb2 _ _⟩
  have hk' : (x.kind != y.kind) = false := by simpa using hk
  by_cases hu : x.num = y.num
  case neg =>
    have HF : Hid (likeM atB x y xs ys = false) := by show _ = _; rw [hM, if_pos (Or.inr (Or.inl hu))]
    have hu' : (x.num != y.num) = true := by simpa using hu
    clear hM hk hu
    go_enter Tryd.func11, Tryd.ntmps11
    go_wp2_with fail
    go_ret
    exact ⟨ret_bool HF.out.symm, hb2 _ _⟩
  have hu' : (x.num != y.num) = false := by simpa using hu
  by_cases hn : x.kids.length = y.kids.length
  case neg =>
    have HF : Hid (likeM atB x y xs ys = false) := by show _ = _; rw [hM, if_pos (Or.inr (Or.inr hn))]
    have hn' : ((x.kids.length : Int) != (y.kids.length : Int)) = true := by simp; omega
    clear hM hk hu hn
    go_enter Tryd.func11, Tryd.ntmps11
    go_wp2_with fail
    go_ret
    exact ⟨ret_bool HF.out.symm, hb2 _ _⟩
  have hn' : ((x.kids.length : Int) != (y.kids.length : Int)) = false := by simp; omega
  rw [if_neg (by rintro (h | h | h); exact h hk; exact h hu; exact h hn)] at hM
  have HN : Hid (x.kids.length = y.kids.length) := hn
  clear hk hu hn
  by_cases h3 : x.kind = 3
  · rw [if_pos h3] at hM
    have HM : Hid (likeM atB x y xs ys = ((atB xs x.name == atB ys y.name) && (decide (0 ≤ atB xs x.name) || (x.name.toList == y.name.toList)))) := hM
    have h3' : (x.kind == 3) = true := by simpa using h3
    clear hM h3
    have hlx := fun w' hw' => spec_l3At xs x.name vx w' (by omega) (hex.keep hw')
    have hly := fun w' hw' => spec_l3At ys y.name vy w' (by omega) (hey.keep hw')
    go_enter Tryd.func11, Tryd.ntmps11
    go_wp2_with (first | (go_at_call_of 17 vx; refine (hlx _ (hb2 _ _)).mono ?_; rintro r w2 ⟨rfl, rfl⟩) | (go_at_call_of 17 vy; refine (hly _ (hb2 _ _)).mono ?_; rintro r w2 ⟨rfl, rfl⟩))
    · go_ret
      exact ⟨ret_bool (by rw [HM.out]; simp [‹atB xs x.name = atB ys y.name›]), hb2 _ _⟩
    · go_ret
      exact ⟨ret_bool (by rw [HM.out]; simp [‹atB xs x.name = atB ys y.name›, ‹0 ≤ atB ys y.name›]), hb2 _ _⟩
    · go_ret
      exact ⟨ret_bool (by rw [HM.out]; simp [‹¬ atB xs x.name = atB ys y.name›]), hb2 _ _⟩
  · rw [if_neg h3] at hM
    have HM : Hid (likeM atB x y xs ys = likeAll atB (x.kids.drop 0) (y.kids.drop 0) 0 (fun i => xs ++ x.bindsAt i) (fun i => ys ++ y.bindsAt i)) := hM
    have h3' : (x.kind == 3) = false := by simpa using h3
    clear hM h3
    go_enter Tryd.func11, Tryd.ntmps11
    go_wp2_with fail
    go_loopw [10] (fun i wr => ∃ k : Nat, k ≤ x.kids.length ∧ i = .int .i64 k ∧ Hid (likeM atB x y xs ys = likeAll atB (x.kids.drop k) (y.kids.drop k) k (fun i => xs ++ x.bindsAt i) (fun i => ys ++ y.bindsAt i)) ∧ Below (w.heap.size + 1 + 1) ((w.alloc (.cells #[.int .i64 x.kind, .string x.name, .string x.tail, .int .i64 x.num, .slice ads x.kids.length caps] 29)).alloc (.cells #[.int .i64 y.kind, .string y.name, .string y.tail, .int .i64 y.num, .slice adt y.kids.length capt] 29)) wr) (fun i _ => x.kids.length - (intOf i).toNat)
    case atStart => exact ⟨0, by omega, rfl, HM, Below.refl _ _⟩
    case round =>
      obtain ⟨k, hkl, rfl, HE, hB⟩ := hrel
      have hN := HN.out
      have hBy := two_second hB
      have hBx := two_first hB
      have hbw := below_of_box hBx
      obtain ⟨p0, p1, p2, p3, p4⟩ := box5 hBx
      have q := box5 hBy
      simp only [World.size_alloc] at q
      obtain ⟨q0, q1, q2, q3, q4⟩ := q
      by_cases hlt : k < x.kids.length
      · have hlt2 : k < y.kids.length := by omega
        clear hN
        obtain ⟨bx, ox, capx, s1, hSx, hslx, hrx, hlx⟩ := hvs.at (List.getElem?_eq_getElem hlt)
        obtain ⟨rfl, rfl⟩ : ads = some ⟨bx, ox, none⟩ ∧ caps = capx := by simpa using hslx
        obtain ⟨by1, oy, capy, t1, hSy, hsly, hry, hly⟩ := hvt.at (List.getElem?_eq_getElem hlt2)
        obtain ⟨rfl, rfl⟩ : adt = some ⟨by1, oy, none⟩ ∧ capt = capy := by simpa using hsly
        obtain ⟨c0, c1, c2, c3, c4⟩ := Ex.five (rangeAt_same (hbw.block bx hSx) hrx)
        obtain ⟨e0, e1, e2, e3, e4⟩ := Ex.five (rangeAt_same (hbw.block by1 hSy) hry)
        have hzw := hB.size
        simp at hzw
        have hzz := hbw.size
        have HS : ∀ w', Below wr.heap.size wr w' → (w'.cell? ⟨w.heap.size, 0, none⟩ = some (.int .i64 x.kind) ∧ w'.cell? ⟨w.heap.size, 1, none⟩ = some (.string x.name) ∧ w'.cell? ⟨w.heap.size, 2, none⟩ = some (.string x.tail) ∧ w'.cell? ⟨w.heap.size, 3, none⟩ = some (.int .i64 x.num) ∧ w'.cell? ⟨w.heap.size, 4, none⟩ = some (.slice (some ⟨bx, ox, none⟩) x.kids.length caps) ∧ w'.cell? ⟨w.heap.size + 1, 0, none⟩ = some (.int .i64 y.kind) ∧ w'.cell? ⟨w.heap.size + 1, 1, none⟩ = some (.string y.name) ∧ w'.cell? ⟨w.heap.size + 1, 2, none⟩ = some (.string y.tail) ∧ w'.cell? ⟨w.heap.size + 1, 3, none⟩ = some (.int .i64 y.num) ∧ w'.cell? ⟨w.heap.size + 1, 4, none⟩ = some (.slice (some ⟨by1, oy, none⟩) y.kids.length capt) ∧ w'.cell? ⟨bx, ox + k * 5, none⟩ = some (.int .i64 x.kids[k].kind) ∧ w'.cell? ⟨bx, ox + k * 5 + 1, none⟩ = some (.string x.kids[k].name) ∧ w'.cell? ⟨bx, ox + k * 5 + 2, none⟩ = some (.string x.kids[k].tail) ∧ w'.cell? ⟨bx, ox + k * 5 + 3, none⟩ = some (.int .i64 x.kids[k].num) ∧ w'.cell? ⟨bx, ox + k * 5 + 4, none⟩ = some (s1) ∧ w'.cell? ⟨by1, oy + k * 5, none⟩ = some (.int .i64 y.kids[k].kind) ∧ w'.cell? ⟨by1, oy + k * 5 + 1, none⟩ = some (.string y.kids[k].name) ∧ w'.cell? ⟨by1, oy + k * 5 + 2, none⟩ = some (.string y.kids[k].tail) ∧ w'.cell? ⟨by1, oy + k * 5 + 3, none⟩ = some (.int .i64 y.kids[k].num) ∧ w'.cell? ⟨by1, oy + k * 5 + 4, none⟩ = some (t1)) := fun w' hb' => by
          refine ⟨?_, ?_, ?_, ?_, ?_, ?_, ?_, ?_, ?_, ?_, ?_, ?_, ?_, ?_, ?_, ?_, ?_, ?_, ?_, ?_⟩
          all_goals (rw [hb'.cell (by dsimp only; omega)]; assumption)
        have hlx' := hlx.keep hbw hbw.size
        have hly' := hly.keep hbw hbw.size
        have hex0 := hex.keep hbw
        have hey0 := hey.keep hbw
        have hi1 : (k : Int) < (x.kids.length : Int) := by omega
        have hi2 : (k : Int) < (y.kids.length : Int) := by omega
        have hd1 : Below wr.heap.size wr wr.drew := (Below.refl _ _).drew
        have hih := ih x.kids[k] (List.getElem_mem hlt) y.kids[k]
        have hwk1 := hwx' x.kids[k] (List.getElem_mem hlt)
        have hwk2 := hwy' y.kids[k] (List.getElem_mem hlt2)
        have hsk := hparts x.kids[k] (List.getElem_mem hlt)
        have HX : Hid (likeAll atB (x.kids.drop k) (y.kids.drop k) k (fun i => xs ++ x.bindsAt i) (fun i => ys ++ y.bindsAt i) = _) := likeAll_drop atB x.kids y.kids k _ _ k hlt hlt2
        clear hrx hlx hslx hry hly hsly HN
        go_wp2_with fail
        go_region_held3 (fun w' => w'.cell? ⟨w.heap.size, 0, none⟩ = some (.int .i64 x.kind) ∧ w'.cell? ⟨w.heap.size, 1, none⟩ = some (.string x.name) ∧ w'.cell? ⟨w.heap.size, 2, none⟩ = some (.string x.tail) ∧ w'.cell? ⟨w.heap.size, 3, none⟩ = some (.int .i64 x.num) ∧ w'.cell? ⟨w.heap.size, 4, none⟩ = some (.slice (some ⟨bx, ox, none⟩) x.kids.length caps) ∧ w'.cell? ⟨w.heap.size + 1, 0, none⟩ = some (.int .i64 y.kind) ∧ w'.cell? ⟨w.heap.size + 1, 1, none⟩ = some (.string y.name) ∧ w'.cell? ⟨w.heap.size + 1, 2, none⟩ = some (.string y.tail) ∧ w'.cell? ⟨w.heap.size + 1, 3, none⟩ = some (.int .i64 y.num) ∧ w'.cell? ⟨w.heap.size + 1, 4, none⟩ = some (.slice (some ⟨by1, oy, none⟩) y.kids.length capt) ∧ w'.cell? ⟨bx, ox + k * 5, none⟩ = some (.int .i64 x.kids[k].kind) ∧ w'.cell? ⟨bx, ox + k * 5 + 1, none⟩ = some (.string x.kids[k].name) ∧ w'.cell? ⟨bx, ox + k * 5 + 2, none⟩ = some (.string x.kids[k].tail) ∧ w'.cell? ⟨bx, ox + k * 5 + 3, none⟩ = some (.int .i64 x.kids[k].num) ∧ w'.cell? ⟨bx, ox + k * 5 + 4, none⟩ = some (s1) ∧ w'.cell? ⟨by1, oy + k * 5, none⟩ = some (.int .i64 y.kids[k].kind) ∧ w'.cell? ⟨by1, oy + k * 5 + 1, none⟩ = some (.string y.kids[k].name) ∧ w'.cell? ⟨by1, oy + k * 5 + 2, none⟩ = some (.string y.kids[k].tail) ∧ w'.cell? ⟨by1, oy + k * 5 + 3, none⟩ = some (.int .i64 y.kids[k].num) ∧ w'.cell? ⟨by1, oy + k * 5 + 4, none⟩ = some (t1))
          ((refine HS _ ?_; first | assumption | exact below_al (by assumption) | exact (below_al0 _ _).drew | exact (below_al (below_al0 _ _)).drew))
          (first
            | (refine step_append_app rfl (.tmp 73) (.tmp 74) rfl _ [] xs _ _ rfl rfl (Or.inr ⟨_, rfl, rfl⟩) (Env.keep hex0 (by first | assumption | exact below_al (by assumption) | exact (below_al0 _ _).drew | exact (below_al (below_al0 _ _)).drew)) (by simp) (by omega) (Nat.le_refl _) ?_; intro v1 w1 ha1 hb1; have hz1 := hb1.size; have hzr := below_base (w := wr) (by first | assumption | exact below_al (by assumption) | exact (below_al0 _ _).drew | exact (below_al (below_al0 _ _)).drew) hb1; have hc1 : Below wr.heap.size wr w1 := below_next (by first | assumption | exact below_al (by assumption) | exact (below_al0 _ _).drew | exact (below_al (below_al0 _ _)).drew) hb1)
            | (refine step_append_app rfl (.tmp 75) (.tmp 78) rfl _ xs (x.bindsAt k) _ _ rfl rfl (by first | exact hv1 | exact App.keep hv1 (below_al0 _ _)) (by first | exact he2 | exact Env.keep he2 (below_al0 _ _)) (by omega) (by have := bindsL_two x.kind x.name x.tail k; simp only [Ex.bindsAt]; omega) (by first | exact hz2 | exact Nat.le_trans hz2 (size_al _ _)) ?_; intro v3 w3 ha3 hb3; have hc3 : Below wr.heap.size wr w3 := below_nextB (by first | assumption | exact below_al (by assumption)) hzr hb3; have he3 : Env w3 (xs ++ x.bindsAt k) v3 := App.base ha3 (Nat.zero_le _))
            | (refine step_append_app rfl (.tmp 80) (.tmp 81) rfl _ [] ys _ _ rfl rfl (Or.inr ⟨_, rfl, rfl⟩) (Env.keep hey0 (by first | assumption | exact below_al (by assumption))) (by simp) (by omega) (Nat.le_refl _) ?_; intro v4 w4 ha4 hb4; have hz4 := hb4.size; have hzr4 := below_base (w := wr) (by first | assumption | exact below_al (by assumption)) hb4; have hc4 : Below wr.heap.size wr w4 := below_next (by first | assumption | exact below_al (by assumption)) hb4)
            | (refine step_append_app rfl (.tmp 82) (.tmp 85) rfl _ ys (y.bindsAt k) _ _ rfl rfl hv4 he5 (by omega) (by have := bindsL_two y.kind y.name y.tail k; simp only [Ex.bindsAt]; omega) hz5 ?_; intro v6 w6 ha6 hb6; have hc6 : Below wr.heap.size wr w6 := below_nextB (by assumption) hzr4 hb6; have hch := (hb4.trans (hb5.mono hz4)).trans hb6; have he36 : Env w6 (xs ++ x.bindsAt k) v3 := (by first | exact Env.keep he3 hch | exact Env.keep (Env.keep he3 (below_al0 _ _)) hch))
            | (go_at_call_of 18 x.name; refine (spec_l3Binds _ _ _ _ _ _ _).mono ?_; rintro r w2 ⟨v2, rfl, he2, hb2⟩; have hb12 : Below w1.heap.size w1 w2 := (by first | exact hb2 | exact below_pre hb2); have hc2 := below_next hc1 hb12; have hv1 := App.keep ha1 hb12; have hz2 := Nat.le_trans hz1 hb12.size)
            | (go_at_call_of 18 y.name; refine (spec_l3Binds _ _ _ _ _ _ _).mono ?_; rintro r w5 ⟨v5, rfl, he5, hb5⟩; have hc5 := below_next hc4 hb5; have hv4 := App.keep ha4 hb5; have hz5 := Nat.le_trans hz4 hb5.size)
            | (go_at_call 11; refine (hih _ _ _ _ _ (xs ++ x.bindsAt k) (ys ++ y.bindsAt k) (d + 1) hwk1 hwk2 (hlx'.keep hc6 hc6.size) (hly'.keep hc6 hc6.size) he36 (App.base ha6 (Nat.zero_le _)) hsk (by omega) ?_ ?_).mono ?_; (have := bindsL_two x.kind x.name x.tail k; simp [Ex.bindsAt]; omega); (have := bindsL_two y.kind y.name y.tail k; simp [Ex.bindsAt]; omega); rintro r w7 ⟨rfl, hb7⟩; have hc7 := below_next hc6 hb7))
        all_goals
          clear HS p0 p1 p2 p3 p4 q0 q1 q2 q3 q4 c0 c1 c2 c3 c4 e0 e1 e2 e3 e4
          cases hlk : likeM atB x.kids[k] y.kids[k] (xs ++ x.bindsAt k) (ys ++ y.bindsAt k)
          · go_wp2_with fail
            go_ret
            exact ⟨ret_bool (by rw [HE.out, HX.out, hlk]; rfl), hbw.trans (hc7.mono hbw.size)⟩
          · go_wp2_with fail
            go_roundw
            case rel => exact ⟨k + 1, by omega, by go_num, by show _ = _; rw [HE.out, HX.out, hlk, Bool.true_and]; rfl, hB.trans (hc7.mono (by omega))⟩
            case measure => simp [intOf]; omega
      · go_wp2_with fail
        go_ret
        exact ⟨ret_bool (by rw [HE.out, likeAll_end _ _ _ _ _ _ k (by omega)]), hbw⟩

theorem spec_l3Like (x : Ex) : SpecLike x := by
  induction x using Ex.ind with
  | h x ih => exact l3_walk x ih
end Go.Proofs.YtmjbfenjalmnlaaDoor
