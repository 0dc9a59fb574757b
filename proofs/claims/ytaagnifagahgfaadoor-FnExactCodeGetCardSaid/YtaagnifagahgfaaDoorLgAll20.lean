/-
  The program's CodeOk.
  Code as it is written.
-/
import Derived.Test.YtaagnifagahgfaaDoorLgAll18
import Derived.Test.YtaagnifagahgfaaDoorCkFits
import Derived.Test.YtaagnifagahgfaaDoorLgAll2
namespace Go.Proofs.YtaagnifagahgfaaDoor
open Go.RowKit

/-- What CodeOk answers. -/
def codeM (ops : List Wd) : Bool := decide (1 ≤ ops.length ∧ ops.length ≤ 200) && (ops.all (fun op => fitsM op ops.length) && runQ ops ops.length (startQ ops))
theorem codeM_len (ops : List Wd) (h : ¬ (1 ≤ ops.length ∧ ops.length ≤ 200)) : codeM ops = false := by
  unfold codeM
  rw [decide_eq_false h]
  rfl
theorem codeM_bad (ops : List Wd) (k : Nat) (hk : k < ops.length) (h : fitsM ops[k] ops.length = false) : codeM ops = false := by
  unfold codeM
  have : (ops.all fun op => fitsM op ops.length) = false := by
    rw [List.all_eq_false]
    exact ⟨_, List.getElem_mem hk, by rw [h]; simp⟩
  rw [this]
  simp
theorem codeM_fit (ops : List Wd) (hl : 1 ≤ ops.length ∧ ops.length ≤ 200) (h : ∀ k (hk : k < ops.length), fitsM ops[k] ops.length = true) : codeM ops = runQ ops ops.length (startQ ops) := by
  unfold codeM
  have : (ops.all fun op => fitsM op ops.length) = true := by
    rw [List.all_eq_true]
    intro x hx
    obtain ⟨k, hk, rfl⟩ := List.getElem_of_mem hx
    exact h k hk
  rw [this, decide_eq_true hl]
  simp
theorem getD_at (ops : List Wd) (k : Nat) (hk : k < ops.length) : ops.getD k op0 = ops[k] := by
  rw [List.getD_eq_getElem?_getD, List.getElem?_eq_getElem hk]
  rfl

set_option maxRecDepth 100000 in
set_option maxHeartbeats 4000000 in
theorem impl_CodeOk (ops : List Wd) (hn : ops.length ≤ 1048576) (w : World) (v : Value) (hv : Words w (· < w.heap.size) ops v) :
    Calls Tryd.prog 18 #[v] w fun r w' => r = .returned (.bool (codeM ops)) ∧ Below w.heap.size w w' := by
  obtain ⟨a, cap, rfl⟩ := hv.slice
  by_cases hl1 : ops.length < 1
  · rw [codeM_len ops (by omega)]
    have h0 : ops.length = 0 := by omega
    have h1 : (ops.length : Int) < 1 := by omega
    clear hv h0
    go_enter Tryd.func18, Tryd.ntmps18
    go_wp2_with fail
    go_ret
    exact ⟨rfl, Below.refl _ _⟩
  by_cases hl2 : 200 < ops.length
  · rw [codeM_len ops (by omega)]
    have h1 : ¬ (ops.length : Int) < 1 := by omega
    have h2 : (200 : Int) < ops.length := by omega
    clear hv
    go_enter Tryd.func18, Tryd.ntmps18
    go_wp2_with fail
    go_ret
    exact ⟨rfl, Below.refl _ _⟩
  have h1 : ¬ (ops.length : Int) < 1 := by omega
  have h2 : ¬ (200 : Int) < ops.length := by omega
  have hl : 1 ≤ ops.length ∧ ops.length ≤ 200 := by omega
  have hV : Hid (Words w (· < w.heap.size) ops (.slice a ops.length cap)) := hv
  have hat := fun i hi => hv.at i hi
  have hat' : Hid (∀ i (hi : i < ops.length), ∃ b off, b < w.heap.size ∧ a = some ⟨b, off, none⟩ ∧ w.rangeAt b (off + i * 2) (Wd.cells ops[i])) := hat
  clear hv hat
  generalize hR : codeM ops = R
  go_enter Tryd.func18, Tryd.ntmps18
  go_wp2_with fail
  go_loopg [15] ops.length (fun k i wr => ∃ j : Nat, j + k = ops.length ∧ i = .int .i64 (j : Int) ∧ Hid (∀ m (hm : m < ops.length), m < j → fitsM ops[m] ops.length = true) ∧ Below w.heap.size w wr)
  case atStart => exact ⟨0, by omega, rfl, (fun m hm h => absurd h (by omega)), Below.refl _ _⟩
  case round =>
    obtain ⟨j, hj, rfl, hall, hb⟩ := hrel
    by_cases hlt : j < ops.length
    · obtain ⟨b, off, hbl, rfl, hr⟩ := hat'.out j hlt
      obtain ⟨d0, d1⟩ := Wd.two (rw_same (hb.block b hbl) hr)
      have hki : (j : Int) < (ops.length : Int) := by omega
      have hbw : b < wr.heap.size := by have := hb.size; omega
      have hF := fun w => law_numFits ops[j] (ops.length : Int) w (by omega)
      have hwj : IntKind.i64.wrap ((j : Int) + 1) = (j : Int) + 1 := ck_wr _ (by omega) (by omega)
      cases hfj : fitsM ops[j] ops.length
      · obtain rfl : R = false := hR.symm.trans (codeM_bad ops j hlt hfj)
        clear hR
        rw [hfj] at hF
        generalize ops[j] = op at d0 d1 hF
        go_wp2_with (go_at_call 32; refine (hF _).mono ?_; rintro r w5 ⟨rfl, hb5⟩)
        go_ret
        exact ⟨rfl, (hb.alloc hb.size _).trans (hb5.mono (by have := hb.size; simp; omega))⟩
      · rw [hfj] at hF
        have hall2 : Hid (∀ m (hm : m < ops.length), m < j + 1 → fitsM ops[m] ops.length = true) := fun m hm h => by
          by_cases e : m = j
          · subst e; exact hfj
          · exact hall.out m hm (by omega)
        clear hfj
        generalize ops[j] = op at d0 d1 hF
        go_wp2_with (go_at_call 32; refine (hF _).mono ?_; rintro r w5 ⟨rfl, hb5⟩)
        go_roundg (ops.length - (j + 1))
        case measure => omega
        case rel => exact ⟨j + 1, by omega, by go_num, hall2, (hb.alloc hb.size _).trans (hb5.mono (by have := hb.size; simp; omega))⟩
    · obtain rfl : j = ops.length := by omega
      have hki : ¬ (ops.length : Int) < (ops.length : Int) := by omega
      have hRR : R = runQ ops ops.length (startQ ops) := hR.symm.trans (codeM_fit ops hl (fun k hk => hall.out k hk hk))
      clear hR
      have hff : ∀ k, k < ops.length → fitsM (ops.getD k op0) ops.length = true := fun k hk => by rw [getD_at ops k hk]; exact hall.out k hk hk
      have hS := impl_standsFit ops hl hff wr (.slice a ops.length cap) (hV.out.keep hb hb.size)
      rw [← hRR] at hS
      clear hff hRR
      go_wp2_with (go_at_call 33; refine hS.mono ?_; rintro r w5 ⟨rfl, hb5⟩)
      go_ret
      exact ⟨rfl, hb.trans (hb5.mono hb.size)⟩
end Go.Proofs.YtaagnifagahgfaaDoor

namespace Go.Proofs.YtaagnifagahgfaaDoor
open Go.RowKit

def codeTab : List (List UInt8) := [[110, 117, 109], [98, 111, 111, 108], [118, 97, 114], [102, 117, 110], [114, 101, 99], [99, 97, 108, 108], [98, 105, 110, 100], [100, 114, 111, 112], [105, 102], [103, 111], [112, 97, 105, 114], [102, 115, 116], [115, 110, 100], [110, 105, 108], [99, 111, 110, 115], [99, 97, 115, 101], [111, 112], [115, 112, 97, 119, 110], [115, 101, 110, 100], [115, 101, 108, 102], [114, 101, 99, 118], [111, 117, 116], [108, 105, 110, 107], [103, 105, 118, 101]]
/-- The word of a kind. -/
def codeB (k : Int) : List UInt8 := codeTab.getD (k.toNat - 1) []
/-- A number stands behind an op. -/
def hasM (k : Int) : Bool := decide (k = 1 ∨ k = 2 ∨ k = 3 ∨ k = 4 ∨ k = 5 ∨ k = 8 ∨ k = 9 ∨ k = 10 ∨ k = 16 ∨ k = 17)
def numT (op : Wd) : List UInt8 := if hasM op.tag = true then [32] ++ Lib.itoa op.num else []
def opT (op : Wd) : List UInt8 := codeB op.tag ++ numT op ++ [10]
def codeT (ops : List Wd) : List UInt8 := ops.flatMap opT
/-- What CodePut answers. -/
def putM (ops : List Wd) : List UInt8 := if codeM ops = true then codeT ops else []
/-- An op that can be written. -/
def OpFine (op : Wd) : Prop := (1 ≤ op.tag ∧ op.tag ≤ 24) ∧ In64 op.num
theorem codeB_len (k : Int) : (codeB k).length ≤ 5 := by
  have h : ∀ x ∈ codeTab, x.length ≤ 5 := by decide
  unfold codeB
  rw [List.getD_eq_getElem?_getD]
  cases hc : codeTab[k.toNat - 1]? with
  | none => simp
  | some x => exact h x (List.mem_of_getElem? hc)
theorem op_len {op : Wd} (h : OpFine op) : (opT op).length ≤ 42 := by
  have h1 := codeB_len op.tag
  have h2 := itoa_len op.num h.2
  have h3 : (numT op).length ≤ 21 := by
    unfold numT
    split
    · simp; omega
    · simp
  simp only [opT, List.length_append, List.length_cons, List.length_nil]
  omega
theorem ops_len : ∀ (l : List Wd), (∀ x ∈ l, OpFine x) → (l.flatMap opT).length ≤ 42 * l.length
  | [], _ => by simp
  | x :: l, h => by
    have h1 := op_len (h x (by simp))
    have h2 := ops_len l (fun y hy => h y (by simp [hy]))
    rw [List.flatMap_cons, List.length_append, List.length_cons]
    omega
theorem take_ops (l : List Wd) (k : Nat) (h : k < l.length) : (l.take (k + 1)).flatMap opT = (l.take k).flatMap opT ++ opT l[k] := by
  rw [List.take_succ_eq_append_getElem h, List.flatMap_append]
  simp
theorem take_ops_len (l : List Wd) (k : Nat) (h : ∀ x ∈ l, OpFine x) : ((l.take k).flatMap opT).length ≤ 42 * l.length := by
  have h1 := ops_len (l.take k) (fun x hx => h x (List.mem_of_mem_take hx))
  have h2 : (l.take k).length ≤ l.length := by rw [List.length_take]; omega
  omega
theorem codeM_fine {ops : List Wd} (h : codeM ops = true) : ops.length ≤ 200 ∧ ∀ x ∈ ops, OpFine x := by
  unfold codeM at h
  rw [Bool.and_eq_true, Bool.and_eq_true, List.all_eq_true] at h
  have hl := of_decide_eq_true h.1
  refine ⟨hl.2, fun x hx => ?_⟩
  obtain ⟨h1, h2, h3, h4⟩ := of_decide_eq_true (h.2.1 x hx)
  refine ⟨⟨h1, h2⟩, ?_⟩
  unfold leastM at h3
  unfold mostM at h4
  unfold In64
  refine ⟨?_, ?_⟩
  · split at h3
    · omega
    · split at h3 <;> omega
  · repeat' split at h4
    all_goals omega
/-- The table of the words of kinds, as the program's text lays it. -/
def codeVals : Array Value := #[.string ⟨#[110, 117, 109]⟩, .string ⟨#[98, 111, 111, 108]⟩, .string ⟨#[118, 97, 114]⟩, .string ⟨#[102, 117, 110]⟩, .string ⟨#[114, 101, 99]⟩, .string ⟨#[99, 97, 108, 108]⟩, .string ⟨#[98, 105, 110, 100]⟩, .string ⟨#[100, 114, 111, 112]⟩, .string ⟨#[105, 102]⟩, .string ⟨#[103, 111]⟩, .string ⟨#[112, 97, 105, 114]⟩, .string ⟨#[102, 115, 116]⟩, .string ⟨#[115, 110, 100]⟩, .string ⟨#[110, 105, 108]⟩, .string ⟨#[99, 111, 110, 115]⟩, .string ⟨#[99, 97, 115, 101]⟩, .string ⟨#[111, 112]⟩, .string ⟨#[115, 112, 97, 119, 110]⟩, .string ⟨#[115, 101, 110, 100]⟩, .string ⟨#[115, 101, 108, 102]⟩, .string ⟨#[114, 101, 99, 118]⟩, .string ⟨#[111, 117, 116]⟩, .string ⟨#[108, 105, 110, 107]⟩, .string ⟨#[103, 105, 118, 101]⟩]
def codeVals0 : Array Value := #[.string ⟨#[]⟩, .string ⟨#[110, 117, 109]⟩, .string ⟨#[98, 111, 111, 108]⟩, .string ⟨#[118, 97, 114]⟩, .string ⟨#[102, 117, 110]⟩, .string ⟨#[114, 101, 99]⟩, .string ⟨#[99, 97, 108, 108]⟩, .string ⟨#[98, 105, 110, 100]⟩, .string ⟨#[100, 114, 111, 112]⟩, .string ⟨#[105, 102]⟩, .string ⟨#[103, 111]⟩, .string ⟨#[112, 97, 105, 114]⟩, .string ⟨#[102, 115, 116]⟩, .string ⟨#[115, 110, 100]⟩, .string ⟨#[110, 105, 108]⟩, .string ⟨#[99, 111, 110, 115]⟩, .string ⟨#[99, 97, 115, 101]⟩, .string ⟨#[111, 112]⟩, .string ⟨#[115, 112, 97, 119, 110]⟩, .string ⟨#[115, 101, 110, 100]⟩, .string ⟨#[115, 101, 108, 102]⟩, .string ⟨#[114, 101, 99, 118]⟩, .string ⟨#[111, 117, 116]⟩, .string ⟨#[108, 105, 110, 107]⟩, .string ⟨#[103, 105, 118, 101]⟩]
theorem code_tab {k : Nat} (h : k < 24) : codeVals[k]? = some (.string (bx (codeB ((k : Int) + 1)))) := by
  match k, h with
  | 0, _ | 1, _ | 2, _ | 3, _ | 4, _ | 5, _ | 6, _ | 7, _ | 8, _ | 9, _ | 10, _ | 11, _ | 12, _ | 13, _ | 14, _ | 15, _ | 16, _ | 17, _ | 18, _ | 19, _ | 20, _ | 21, _ | 22, _ | 23, _ => rfl
  | n + 24, h => exact absurd h (by omega)
theorem code_tab0 {k : Nat} (h1 : 1 ≤ k) (h : k < 25) : codeVals0[k]? = some (.string (bx (codeB (k : Int)))) := by
  match k, h1, h with
  | 1, _, _ | 2, _, _ | 3, _, _ | 4, _, _ | 5, _, _ | 6, _, _ | 7, _, _ | 8, _, _ | 9, _, _ | 10, _, _ | 11, _, _ | 12, _, _ | 13, _, _ | 14, _, _ | 15, _, _ | 16, _, _ | 17, _, _ | 18, _, _ | 19, _, _ | 20, _, _ | 21, _, _ | 22, _, _ | 23, _, _ | 24, _, _ => rfl
  | 0, h, _ => exact absurd h (by omega)
  | n + 25, _, h => exact absurd h (by omega)
theorem code_tab_size : codeVals0.size = 25 := rfl
end Go.Proofs.YtaagnifagahgfaaDoor

