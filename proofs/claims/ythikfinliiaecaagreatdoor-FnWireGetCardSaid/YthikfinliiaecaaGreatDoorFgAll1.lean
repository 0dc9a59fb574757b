/-
  The reader of a code: its first pick. Bytes that came in.
  The reader of a code: a pick at any place.
-/
import Derived.Test.YthikfinliiaecaaGreatDoorRows
import Derived.Test.YthikfinliiaecaaGreatDoorFgAll0
import Derived.WalkKit
import Derived.WalkSpells
import Derived.WalkLawsBesides
import Derived.RowKit3
import Derived.OpenShut
import Derived.ProofKit
import Derived.Below
import Derived.Deep.DeepHandedRow
import Derived.Deep.QuietTactic
import Derived.BigQuiet
import Derived.Deep.Cut
namespace Go.Proofs.YthikfinliiaecaaGreatDoor
open Go.ChangeShapes Go.WideShapes Go.ChangeAt Go.RowKit

/-- A slice of so many bytes lies in w below S. -/
def Bytes (w : World) (B : Nat) (len : Nat) (v : Value) : Prop := ∃ a cap, v = .slice a len cap ∧ len ≤ cap ∧ cap ≤ maxLen ∧ ∀ i, i < len → ∃ b off x, a = some ⟨b, off, none⟩ ∧ b < B ∧ w.cell? ⟨b, off + i, none⟩ = some (.int .u8 x) ∧ 0 ≤ x ∧ x < 256
theorem Bytes.keep {w w' : World} {B B' len : Nat} {v : Value} (h : Bytes w B len v) (hb : Below B w w') (hB : B ≤ B') : Bytes w' B' len v := by
  obtain ⟨a, cap, rfl, h1, h2, h3⟩ := h
  refine ⟨a, cap, rfl, h1, h2, fun i hi => ?_⟩
  obtain ⟨b, off, x, rfl, hlt, hc, hx⟩ := h3 i hi
  exact ⟨b, off, x, rfl, Nat.lt_of_lt_of_le hlt hB, by rw [hb.cell (p := ⟨b, off + i, none⟩) hlt]; exact hc, hx⟩

theorem rdByte : Tryz.prog.cellsOf 5 = 1 := by kernel_rfl
set_option maxRecDepth 100000 in
theorem open_code {H : Type} {enc : TypeId × Value → H} {W : World} {base : Nat} {v : Value} {d : DataW H} {p : List MemPlace} (hval : Value.okWide Tryz.prog W .any base 22 v) (h : DataW.Trod enc Tryz.prog W 0 (fun _ => true) true 22 v d p) :
    ∃ len, Bytes W W.heap.size len v := by
  obtain ⟨a1, len, cap, rfl⟩ := okWide_slice Tryz.underlying22 hval
  obtain ⟨fuel, hf⟩ := h
  rcases open_ints Tryz.underlying22 Tryz.underlying5 rdByte hf with ⟨hcs, hx⟩ | ⟨a, len', cap', zs, hcs, _, hl, hm, hz, hx, hcell, hwz⟩
  · simp [Value.cells] at hcs
    obtain ⟨rfl, rfl, rfl⟩ := hcs
    exact ⟨0, none, 0, rfl, Nat.le_refl _, Nat.zero_le _, fun i hi => by omega⟩
  · simp [Value.cells] at hcs
    obtain ⟨rfl, rfl, rfl⟩ := hcs
    simp only [if_true] at hz
    refine ⟨len, some a, cap, rfl, hl, hm, fun i hi => ?_⟩
    obtain ⟨ab, ao, spot⟩ := a
    have hspot : spot = none := by simpa [Addr.add] using World.cell?_spot (hcell 0 (by omega))
    subst hspot
    have hc := hcell i (by omega)
    have hlt := World.block_lt_of_cell? W _ hc
    rw [Addr.add_mid] at hc hlt
    have hw := hwz (zs.getD i 0) (by rw [List.getD_eq_getElem?_getD, List.getElem?_eq_getElem (by omega)]; exact List.getElem_mem _)
    simp only [Lit.wf, Bool.and_eq_true, decide_eq_true_eq] at hw
    obtain ⟨hw1, hw2⟩ := hw
    have hw1' : (0 : Int) ≤ zs.getD i 0 := hw1
    have hw2' : zs.getD i 0 ≤ (255 : Int) := hw2
    exact ⟨ab, ao, zs.getD i 0, rfl, hlt, hc, hw1', by omega⟩

set_option maxHeartbeats 1000000 in
theorem spec_pick0 (w : World) (g len cap : Nat) (a : Option Addr) (n : Nat) (hn1 : 1 ≤ n) (hn : n ≤ 1000) (hlen : len ≤ 2000) (h0 : w.cell? ⟨g, 0, none⟩ = some (.slice a len cap)) (h1 : w.cell? ⟨g, 1, none⟩ = some (.int .i64 0)) (hf : w.frozen? ⟨g, 1, none⟩ = false)
    (hb : 0 < len → ∃ b off x, a = some ⟨b, off, none⟩ ∧ b < g ∧ w.cell? ⟨b, off, none⟩ = some (.int .u8 x) ∧ 0 ≤ x ∧ x < 256) :
    Calls Tryz.prog 14 #[.pointer (some ⟨g, 0, none⟩), .int .i64 n] w fun r w' => (∃ k : Nat, r = .returned (.int .i64 k) ∧ k < n) ∧ w' = w.setCell ⟨g, 1, none⟩ (.int .i64 1) := by
  have hn' : ¬ (n : Int) < 1 := by omega
  rcases Nat.eq_zero_or_pos len with rfl | hpos
  · clear hb
    go_enter Tryz.func14, Tryz.ntmps14
    go_wp2_with fail
    go_ret
    exact ⟨⟨0, rfl, by omega⟩, rfl⟩
  · obtain ⟨b, off, x, rfl, hlt, hc, hx0, hx⟩ := hb hpos
    have hc' : ∀ u, (w.setCell ⟨g, 1, none⟩ u).cell? ⟨b, off, none⟩ = some (.int .u8 x) := fun u => by
      rw [World.cell?_of_block (w := w) (Below.heap_setCell _ _ _ _ (by show b ≠ g; omega))]; exact hc
    have hne : ¬ (len : Int) = 0 := by omega
    have hp : (0 : Int) < (len : Int) := by omega
    go_enter Tryz.func14, Tryz.ntmps14
    go_wp2_with fail
    go_ret
    have e1 := Int.emod_nonneg x (by omega : (n : Int) ≠ 0)
    have e2 := Int.emod_lt_of_pos x (by omega : (0 : Int) < (n : Int))
    exact ⟨⟨(x % n).toNat, by rw [Int.toNat_of_nonneg e1]; rfl, by omega⟩, rfl⟩
end Go.Proofs.YthikfinliiaecaaGreatDoor

namespace Go.Proofs.YthikfinliiaecaaGreatDoor
open Go.RowKit

theorem xor64 (a b : Nat) (ha : a < 4611686018427387904) (hb : b < 4611686018427387904) : bits .xor .i64 (a : Int) (b : Int) = ((a ^^^ b : Nat) : Int) := by
  have hx : a ^^^ b < 2 ^ 62 := Nat.xor_lt_two_pow (by omega) (by omega)
  have h1 : (BitVec.ofInt 64 (a : Int)).toNat = a := by
    rw [BitVec.ofInt_natCast, BitVec.toNat_ofNat]; exact Nat.mod_eq_of_lt (by omega)
  have h2 : (BitVec.ofInt 64 (b : Int)).toNat = b := by
    rw [BitVec.ofInt_natCast, BitVec.toNat_ofNat]; exact Nat.mod_eq_of_lt (by omega)
  show IntKind.i64.wrap ((BitVec.ofInt 64 (a : Int) ^^^ BitVec.ofInt 64 (b : Int)).toNat : Int) = _
  rw [BitVec.toNat_xor, h1, h2]
  simp [IntKind.wrap, IntKind.bits, IntKind.signed]
  omega

theorem wr64 (z : Int) (h1 : 0 ≤ z) (h2 : z < 9223372036854775808) : IntKind.i64.wrap z = z := by
  simp [IntKind.wrap, IntKind.bits, IntKind.signed]
  omega

/-- The reader of a code lies in block g, at most P picks in. -/
def Rd (w : World) (g P : Nat) : Prop := ∃ (a : Option Addr) (len cap p : Nat), len ≤ 2000 ∧ p ≤ P ∧ g < w.heap.size ∧ w.cell? ⟨g, 0, none⟩ = some (.slice a len cap) ∧ w.cell? ⟨g, 1, none⟩ = some (.int .i64 p) ∧ w.frozen? ⟨g, 1, none⟩ = false ∧
  ∀ i, i < len → ∃ b off x, a = some ⟨b, off, none⟩ ∧ b < g ∧ w.cell? ⟨b, off + i, none⟩ = some (.int .u8 x) ∧ 0 ≤ x ∧ x < 256
theorem Rd.same {w w' : World} {g P : Nat} (h : Rd w g P) (hs : ∀ k, k ≤ g → w'.heap[k]? = w.heap[k]?) (hz : w.heap.size ≤ w'.heap.size) : Rd w' g P := by
  obtain ⟨a, len, cap, p, h1, h2, h3, h4, h5, h6, h7⟩ := h
  refine ⟨a, len, cap, p, h1, h2, by omega, by rw [World.cell?_of_block (w := w) (hs g (Nat.le_refl _))]; exact h4, by rw [World.cell?_of_block (w := w) (hs g (Nat.le_refl _))]; exact h5, by rw [World.frozen?_of_block (w := w) (hs g (Nat.le_refl _))]; exact h6, fun i hi => ?_⟩
  obtain ⟨b, off, x, ha, hb, hc, hx⟩ := h7 i hi
  exact ⟨b, off, x, ha, hb, by rw [World.cell?_of_block (w := w) (hs b (Nat.le_of_lt hb))]; exact hc, hx⟩
theorem Rd.keep {w w' : World} {g P : Nat} (h : Rd w g P) (hb : Below w.heap.size w w') : Rd w' g P :=
  h.same (fun k hk => hb.block k (Nat.lt_of_le_of_lt hk (by obtain ⟨_, _, _, _, _, _, h3, _⟩ := h; exact h3))) hb.size
theorem Rd.mono {w : World} {g P P' : Nat} (h : Rd w g P) (hP : P ≤ P') : Rd w g P' := by
  obtain ⟨a, len, cap, p, h1, h2, h3⟩ := h
  exact ⟨a, len, cap, p, h1, Nat.le_trans h2 hP, h3⟩
theorem Rd.lt {w : World} {g P : Nat} (h : Rd w g P) : g < w.heap.size := by
  obtain ⟨_, _, _, _, _, _, h3, _⟩ := h; exact h3
/-- How a pick ends. -/
def Picked (w w' : World) (g P n : Nat) (r : Ending) : Prop := ∃ k : Nat, r = .returned (.int .i64 (k : Int)) ∧ (k < n ∨ k = 0) ∧ Rd w' g (P + 1) ∧ w.grownBy w' (some g)

theorem rd_next {w : World} {g P p len cap : Nat} {a : Option Addr} (hlen : len ≤ 2000) (hp : p ≤ P) (hz : g < w.heap.size) (h0 : w.cell? ⟨g, 0, none⟩ = some (.slice a len cap)) (h1 : w.cell? ⟨g, 1, none⟩ = some (.int .i64 p)) (hf : w.frozen? ⟨g, 1, none⟩ = false)
    (h7 : ∀ i, i < len → ∃ b off x, a = some ⟨b, off, none⟩ ∧ b < g ∧ w.cell? ⟨b, off + i, none⟩ = some (.int .u8 x) ∧ 0 ≤ x ∧ x < 256) (m : Nat) (u : Int) (hu : u = (p : Int) + 1) :
    Rd ((w.setCell ⟨g, 1, none⟩ (.int .i64 u)).drewN m) g (P + 1) ∧ w.grownBy ((w.setCell ⟨g, 1, none⟩ (.int .i64 u)).drewN m) (some g) := by
  subst hu
  refine ⟨⟨a, len, cap, p + 1, hlen, by omega, by show g < (w.setCell _ _).heap.size; simp [World.setCell]; exact hz, ?_, ?_, ?_, ?_⟩, ?_⟩
  · show (w.setCell _ _).cell? _ = _
    rw [World.cell?_setCell_other _ _ _ _ (by simp)]; exact h0
  · show (w.setCell _ _).cell? _ = _
    rw [World.cell?_setCell_same _ _ _ h1]; simp
  · show (w.setCell _ _).frozen? _ = _
    rw [rw_frozen_set]; exact hf
  · intro i hi
    obtain ⟨b, off, x, ha, hb, hc, hx⟩ := h7 i hi
    refine ⟨b, off, x, ha, hb, ?_, hx⟩
    show (w.setCell _ _).cell? _ = _
    rw [World.cell?_of_block (w := w) (Below.heap_setCell _ _ _ _ (by show b ≠ g; omega))]; exact hc
  · have h := ow_but_set w g 1 (.int .i64 ((p : Int) + 1))
    exact ⟨h.os, h.tape, h.output, h.size, h.block⟩

set_option maxHeartbeats 2000000 in
theorem rd_pick (w : World) (g P n : Nat) (h : Rd w g P) (hP : P ≤ 1000000) (hn : n ≤ 1000000) :
    Calls Tryz.prog 14 #[.pointer (some ⟨g, 0, none⟩), .int .i64 n] w fun r w' => Picked w w' g P n r := by
  obtain ⟨a, len, cap, p, hlen, hp, hz, h0, h1, hf, h7⟩ := h
  have HN := fun m u hu => rd_next hlen hp hz h0 h1 hf h7 m u hu
  rcases Nat.eq_zero_or_pos n with rfl | hn1
  · clear h7
    go_enter Tryz.func14, Tryz.ntmps14
    go_wp2_with fail
    go_ret
    exact ⟨0, rfl, Or.inr rfl, HN 0 _ rfl⟩
  have hn' : ¬ (n : Int) < 1 := by omega
  rcases Nat.eq_zero_or_pos len with rfl | hpos
  · clear h7
    go_enter Tryz.func14, Tryz.ntmps14
    go_wp2_with fail
    go_ret
    exact ⟨0, rfl, Or.inr rfl, HN 0 _ rfl⟩
  have hne : ¬ (len : Int) = 0 := by omega
  have hneb : ((len : Int) == 0) = false := by simp; omega
  have hbyte : ∀ i, i < len → ∃ b off x, a = some ⟨b, off, none⟩ ∧ (w.setCell ⟨g, 1, none⟩ (.int .i64 ((p : Int) + 1))).cell? ⟨b, off + i, none⟩ = some (.int .u8 x) ∧ 0 ≤ x ∧ x < 256 := fun i hi => by
    obtain ⟨b, off, x, ha, hb, hc, hx⟩ := h7 i hi
    exact ⟨b, off, x, ha, by rw [World.cell?_of_block (w := w) (Below.heap_setCell _ _ _ _ (by show b ≠ g; omega))]; exact hc, hx⟩
  clear h7
  by_cases hlt : p < len
  · obtain ⟨b, off, x, rfl, hc, hx0, hx⟩ := hbyte p hlt
    have hli : (p : Int) < (len : Int) := by omega
    have e1 := Int.emod_nonneg x (by omega : (n : Int) ≠ 0)
    have e2 := Int.emod_lt_of_pos x (by omega : (0 : Int) < (n : Int))
    go_enter Tryz.func14, Tryz.ntmps14
    go_wp2_with fail
    go_ret
    exact ⟨(x % n).toNat, by rw [Int.toNat_of_nonneg e1]; rfl, Or.inl (by omega), HN 0 _ rfl⟩
  · have hli : ¬ (p : Int) < (len : Int) := by omega
    obtain ⟨b, off, x, rfl, hc, hx0, hx⟩ := hbyte (p % len) (Nat.mod_lt _ hpos)
    obtain ⟨b', off', y, hbo, hd, hy0, hy⟩ := hbyte ((p * 7 + 3) % len) (Nat.mod_lt _ hpos)
    obtain ⟨rfl, rfl⟩ : b = b' ∧ off = off' := by simpa using hbo
    have q1 : (0 : Int) ≤ (p : Int) % (len : Int) := Int.emod_nonneg _ hne
    have q2 : (p : Int) % (len : Int) < (len : Int) := Int.emod_lt_of_pos _ (by omega)
    have q3 : (0 : Int) ≤ ((p : Int) * 7 + 3) % (len : Int) := Int.emod_nonneg _ hne
    have q4 : ((p : Int) * 7 + 3) % (len : Int) < (len : Int) := Int.emod_lt_of_pos _ (by omega)
    have t1 : p % len = ((p : Int) % (len : Int)).toNat := by omega
    have t2 : (p * 7 + 3) % len = (((p : Int) * 7 + 3) % (len : Int)).toNat := by
      have : (((p * 7 + 3 : Nat) : Int) % (len : Int)) = ((p : Int) * 7 + 3) % (len : Int) := by simp
      omega
    rw [t1] at hc
    rw [t2] at hd
    have q5 : (0 : Int) ≤ (p : Int) / (len : Int) := Int.ediv_nonneg (by omega) (by omega)
    have q6 : (p : Int) / (len : Int) ≤ (p : Int) := Int.ediv_le_self _ (by omega)
    clear t1 t2 hbyte
    have hne0 : ¬ len = 0 := by omega
    have hn0 : ¬ n = 0 := by omega
    have e1 : (p : Int).tmod (len : Int) = (p : Int) % (len : Int) := Int.tmod_eq_emod_of_nonneg (by omega)
    have e2 : ((p : Int) * 7 + 3).tmod (len : Int) = ((p : Int) * 7 + 3) % (len : Int) := Int.tmod_eq_emod_of_nonneg (by omega)
    have e3 : (p : Int).tdiv (len : Int) = (p : Int) / (len : Int) := Int.tdiv_eq_ediv_of_nonneg (by omega)
    generalize (p : Int) % (len : Int) = r1 at *
    generalize ((p : Int) * 7 + 3) % (len : Int) = r2 at *
    generalize (p : Int) / (len : Int) = q at *
    have v1 := wr64 ((p : Int) * 7) (by omega) (by omega)
    have v2 := wr64 ((p : Int) * 7 + 3) (by omega) (by omega)
    have v3 := wr64 (x * 131) (by omega) (by omega)
    have v4 := wr64 (y * 1117) (by omega) (by omega)
    have v5 := wr64 (x * 131 + y * 1117) (by omega) (by omega)
    have v6 := wr64 ((p : Int) * 29) (by omega) (by omega)
    have v7 := wr64 (x * 131 + y * 1117 + (p : Int) * 29) (by omega) (by omega)
    have v8 := wr64 (q * 53) (by omega) (by omega)
    have v9 := wr64 (x * 131 + y * 1117 + (p : Int) * 29 + q * 53) (by omega) (by omega)
    have va := wr64 x (by omega) (by omega)
    have vb := wr64 y (by omega) (by omega)
    have HX : Hid (0 ≤ x * 131 + y * 1117 + (p : Int) * 29 + q * 53 ∧ x * 131 + y * 1117 + (p : Int) * 29 + q * 53 < 100000000000) := ⟨by omega, by omega⟩
    go_enter Tryz.func14, Tryz.ntmps14
    go_upto_region 7 with (fail)
    go_quiet (fail)
    generalize x * 131 + y * 1117 + (p : Int) * 29 + q * 53 = X at *
    obtain ⟨hX0, hX1⟩ := HX.out
    obtain ⟨m, rfl⟩ : ∃ m : Nat, X = (m : Int) := ⟨X.toNat, by omega⟩
    have d2 : bits .xor .i64 (m : Int) ((m : Int) / 64) = ((m ^^^ m / 64 : Nat) : Int) := by
      rw [show ((m : Int) / 64) = ((m / 64 : Nat) : Int) from rfl]
      exact xor64 m (m / 64) (by omega) (by omega)
    have d3 : (bits .xor .i64 (m : Int) ((m : Int) / 64)).tmod (n : Int) = (((m ^^^ m / 64) % n : Nat) : Int) := by
      rw [d2, Int.tmod_eq_emod_of_nonneg (by omega)]
      rfl
    have D3 : Hid ((bits .xor .i64 (m : Int) ((m : Int) / 64)).tmod (n : Int) = (((m ^^^ m / 64) % n : Nat) : Int)) := d3
    clear d2 d3
    go_wp2_with fail
    go_ret
    exact ⟨(m ^^^ m / 64) % n, congrArg (fun z => Ending.returned (.int .i64 z)) D3.out, Or.inl (Nat.mod_lt _ hn1), HN _ _ rfl⟩

end Go.Proofs.YthikfinliiaecaaGreatDoor

