/-
  The reader of a code: its first pick. Bytes that came in.
-/
import Derived.Test.YtndpioniobhbmaaRows
import Derived.Test.YtndpioniobhbmaaOwRow
import Derived.WalkKit
import Derived.WalkSpells
import Derived.WalkLawsBesides
import Derived.RowKit3
import Derived.OpenShut
import Derived.ProofKit
import Derived.Below
import Derived.Deep.DeepHandedRow
namespace Go.Proofs.Ytndpioniobhbmaa
open Go.ChangeShapes Go.WideShapes Go.ChangeAt Go.RowKit

/-- A slice of so many bytes lies in w below S. -/
def Bytes (w : World) (B : Nat) (len : Nat) (v : Value) : Prop := ∃ a cap, v = .slice a len cap ∧ len ≤ cap ∧ cap ≤ maxLen ∧ ∀ i, i < len → ∃ b off x, a = some ⟨b, off, none⟩ ∧ b < B ∧ w.cell? ⟨b, off + i, none⟩ = some (.int .u8 x) ∧ 0 ≤ x ∧ x < 256
theorem Bytes.keep {w w' : World} {B B' len : Nat} {v : Value} (h : Bytes w B len v) (hb : Below B w w') (hB : B ≤ B') : Bytes w' B' len v := by
  obtain ⟨a, cap, rfl, h1, h2, h3⟩ := h
  refine ⟨a, cap, rfl, h1, h2, fun i hi => ?_⟩
  obtain ⟨b, off, x, rfl, hlt, hc, hx⟩ := h3 i hi
  exact ⟨b, off, x, rfl, Nat.lt_of_lt_of_le hlt hB, by rw [hb.cell (p := ⟨b, off + i, none⟩) hlt]; exact hc, hx⟩

theorem rdByte : Try.prog.cellsOf 5 = 1 := by kernel_rfl
set_option maxRecDepth 100000 in
theorem open_code {H : Type} {enc : TypeId × Value → H} {W : World} {base : Nat} {v : Value} {d : DataW H} {p : List MemPlace} (hval : Value.okWide Try.prog W .any base 22 v) (h : DataW.Trod enc Try.prog W 0 (fun _ => true) true 22 v d p) :
    ∃ len, Bytes W W.heap.size len v := by
  obtain ⟨a1, len, cap, rfl⟩ := okWide_slice Try.underlying22 hval
  obtain ⟨fuel, hf⟩ := h
  rcases open_ints Try.underlying22 Try.underlying5 rdByte hf with ⟨hcs, hx⟩ | ⟨a, len', cap', zs, hcs, _, hl, hm, hz, hx, hcell, hwz⟩
  · simp [Value.cells] at hcs
    obtain ⟨rfl, rfl, rfl⟩ := hcs
    exact ⟨0, none, 0, rfl, Nat.le_refl _, Nat.zero_le _, fun i hi => by omega⟩
  · simp [Value.cells] at hcs
    obtain ⟨rfl, rfl, rfl⟩ := hcs
    simp only [if_true] at hz
    refine ⟨len, some a, cap, rfl, hl, hm, fun i hi => ?_⟩
    obtain ⟨ab, ao, spot⟩ := a
    have hspot : spot = none := by simpa [Addr.add] using World.cell?_spot (hcell 0 (by omega))
    subst hspot
    have hc := hcell i (by omega)
    have hlt := World.block_lt_of_cell? W _ hc
    rw [Addr.add_mid] at hc hlt
    have hw := hwz (zs.getD i 0) (by rw [List.getD_eq_getElem?_getD, List.getElem?_eq_getElem (by omega)]; exact List.getElem_mem _)
    simp only [Lit.wf, Bool.and_eq_true, decide_eq_true_eq] at hw
    obtain ⟨hw1, hw2⟩ := hw
    have hw1' : (0 : Int) ≤ zs.getD i 0 := hw1
    have hw2' : zs.getD i 0 ≤ (255 : Int) := hw2
    exact ⟨ab, ao, zs.getD i 0, rfl, hlt, hc, hw1', by omega⟩

set_option maxHeartbeats 1000000 in
theorem spec_pick0 (w : World) (g len cap : Nat) (a : Option Addr) (n : Nat) (hn1 : 1 ≤ n) (hn : n ≤ 1000) (hlen : len ≤ 2000) (h0 : w.cell? ⟨g, 0, none⟩ = some (.slice a len cap)) (h1 : w.cell? ⟨g, 1, none⟩ = some (.int .i64 0)) (hf : w.frozen? ⟨g, 1, none⟩ = false)
    (hb : 0 < len → ∃ b off x, a = some ⟨b, off, none⟩ ∧ b < g ∧ w.cell? ⟨b, off, none⟩ = some (.int .u8 x) ∧ 0 ≤ x ∧ x < 256) :
    Calls Try.prog 12 #[.pointer (some ⟨g, 0, none⟩), .int .i64 n] w fun r w' => (∃ k : Nat, r = .returned (.int .i64 k) ∧ k < n) ∧ w' = w.setCell ⟨g, 1, none⟩ (.int .i64 1) := by
  have hn' : ¬ (n : Int) < 1 := by omega
  rcases Nat.eq_zero_or_pos len with rfl | hpos
  · clear hb
    go_enter Try.func12, Try.ntmps12
    go_wp2_with fail
    go_ret
    exact ⟨⟨0, rfl, by omega⟩, rfl⟩
  · obtain ⟨b, off, x, rfl, hlt, hc, hx0, hx⟩ := hb hpos
    have hc' : ∀ u, (w.setCell ⟨g, 1, none⟩ u).cell? ⟨b, off, none⟩ = some (.int .u8 x) := fun u => by
      rw [World.cell?_of_block (w := w) (Below.heap_setCell _ _ _ _ (by show b ≠ g; omega))]; exact hc
    have hne : ¬ (len : Int) = 0 := by omega
    have hp : (0 : Int) < (len : Int) := by omega
    go_enter Try.func12, Try.ntmps12
    go_wp2_with fail
    go_ret
    have e1 := Int.emod_nonneg x (by omega : (n : Int) ≠ 0)
    have e2 := Int.emod_lt_of_pos x (by omega : (0 : Int) < (n : Int))
    exact ⟨⟨(x % n).toNat, by rw [Int.toNat_of_nonneg e1]; rfl, by omega⟩, rfl⟩
end Go.Proofs.Ytndpioniobhbmaa
