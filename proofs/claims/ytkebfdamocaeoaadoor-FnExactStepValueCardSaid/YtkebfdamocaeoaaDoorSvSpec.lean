/-
  The specification's l11Value.
-/
import Derived.Test.YtkebfdamocaeoaaDoorBuMath
import Derived.Test.YtkebfdamocaeoaaDoorExBox
import Derived.Deep.RegionWith
namespace Go.Proofs.YtkebfdamocaeoaaDoor
open Go.RowKit

/-- What l11Value does with an expression. -/
def SpecValue (e : Ex) : Prop := ∀ (w : World) (s : Value) (d : Int), Lies w (· < w.heap.size) e.kids s → sizeM e d ≤ 60 →
  Calls Tryd.prog 11 #[e.val s] w fun r w' => r = .returned (.bool (builtM valueK e)) ∧ Below w.heap.size w w'

set_option maxHeartbeats 600000 in
theorem value_walk (e : Ex) (ih : ∀ x ∈ e.kids, SpecValue x) : SpecValue e := by
  intro w s d hv hsz
  have hparts := (ok_parts e d hsz).2
  by_cases hk : e.kind = 9 ∨ e.kind = 13
  · obtain ⟨a, b, hab⟩ := ok_two e d hsz hk
    have HM : Hid (builtM valueK e = (builtM valueK a && builtM valueK b)) := builtM_two _ _ _ _ hk hab
    rw [hab] at hv hparts ih
    obtain ⟨bl, off, cap, sa, hS, rfl, hra, hla⟩ := hv.at (i := 0) (e := a) rfl
    obtain ⟨bl2, off2, cap2, sb, hS2, hsl, hrb, hlb⟩ := hv.at (i := 1) (e := b) rfl
    obtain ⟨⟨rfl, rfl⟩, rfl⟩ : (bl = bl2 ∧ off = off2) ∧ cap = cap2 := by simpa using hsl
    have iha := ih a (by simp)
    have ihb := ih b (by simp)
    have hpa := hparts a (by simp)
    have hpb := hparts b (by simp)
    obtain ⟨a2, capa, rfl⟩ := hla.slice
    obtain ⟨b2, capb, rfl⟩ := hlb.slice
    obtain ⟨c0, c1, c2, c3, c4⟩ := Ex.five hra
    simp only [Nat.zero_mul, Nat.add_zero] at c0 c1 c2 c3 c4
    have HB : ∀ w', Below w.heap.size w w' → (w'.cell? ⟨bl, off + 1 * 5, none⟩ = some (.int .i64 b.kind) ∧ w'.cell? ⟨bl, off + 1 * 5 + 1, none⟩ = some (.string b.name) ∧ w'.cell? ⟨bl, off + 1 * 5 + 2, none⟩ = some (.string b.tail) ∧ w'.cell? ⟨bl, off + 1 * 5 + 3, none⟩ = some (.int .i64 b.num) ∧ w'.cell? ⟨bl, off + 1 * 5 + 4, none⟩ = some (.slice b2 b.kids.length capb)) := fun w' hb' => Ex.five (rangeAt_same (hb'.block bl hS) hrb)
    simp only [Nat.one_mul] at HB
    have hk' : (e.kind == 1) = false ∧ (e.kind == 2) = false ∧ (e.kind == 3) = false ∧ (e.kind == 4) = false ∧ (e.kind == 12) = false ∧ (e.kind == 18) = false := by
      refine ⟨?_, ?_, ?_, ?_, ?_, ?_⟩ <;> (rw [beq_eq_false_iff_ne]; omega)
    obtain ⟨k1, k2, k3, k4, k5, k6⟩ := hk'
    have hkk : (e.kind == 9) = true ∨ (e.kind == 9) = false ∧ (e.kind == 13) = true := by
      by_cases h : e.kind = 9
      · exact Or.inl (by simpa using h)
      · exact Or.inr ⟨by simpa using h, by simp; omega⟩
    clear hk hra hrb hab hsl hv
    have hla' := fun o => lies_alloc hla o
    cases hva : builtM valueK a
    · rcases hkk with k9 | ⟨k9, k13⟩
      all_goals
        go_enter Tryd.func11, Tryd.ntmps11
        go_wp2_with (go_at_call 11; refine (iha _ _ _ (hla' _) hpa).mono ?_; rintro r w2 ⟨rfl, hb2⟩; rw [hva]; have hB2 := box_start hb2; clear hb2)
        go_ret
        exact ⟨ret_bool (by rw [HM.out, hva]; rfl), below_of_box hB2⟩
    · rcases hkk with k9 | ⟨k9, k13⟩
      all_goals
        go_enter Tryd.func11, Tryd.ntmps11
        go_wp2_with (first
          | (go_at_call_of 11 a.name; refine (iha _ _ _ (hla' _) hpa).mono ?_; rintro r w2 ⟨rfl, hb2⟩; rw [hva]; have hB2 := box_start hb2; clear hb2; obtain ⟨p0, p1, p2, p3, p4⟩ := box5 hB2; obtain ⟨e0, e1, e2, e3, e4⟩ := HB _ (below_of_box hB2))
          | (go_at_call_of 11 b.name; refine (ihb _ _ _ (hlb.keep (below_of_box hB2) (below_of_box hB2).size) hpb).mono ?_; rintro r w3 ⟨rfl, hb3⟩; have hB3 := below_box_trans hB2 hb3; clear hb3))
        go_ret
        exact ⟨ret_bool (by rw [HM.out, hva]; rfl), below_of_box hB3⟩
  · have HM : Hid (builtM valueK e = valueK e.kind) := builtM_one _ _ hk
    have k9 : (e.kind == 9) = false := by simp; omega
    have k13 : (e.kind == 13) = false := by simp; omega
    clear hk
    go_enter Tryd.func11, Tryd.ntmps11
    go_wp2_with fail
    all_goals
      go_ret
      refine ⟨ret_bool ?_, (Below.refl _ _).alloc (Nat.le_refl _) _⟩
      rw [HM.out]
      unfold valueK
      simp_all

theorem spec_l11Value (e : Ex) : SpecValue e := by
  induction e using Ex.ind with
  | h e ih => exact value_walk e ih
end Go.Proofs.YtkebfdamocaeoaaDoor
