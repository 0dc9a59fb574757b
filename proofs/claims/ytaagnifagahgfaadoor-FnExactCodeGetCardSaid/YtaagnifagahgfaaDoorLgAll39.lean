/-
  The specification's one: of whatever op.
  The specification's l6Ok: how its rounds begin; what was gone through.
-/
import Derived.Test.YtaagnifagahgfaaDoorCkOneB
import Derived.Test.YtaagnifagahgfaaDoorCkOneC
import Derived.Test.YtaagnifagahgfaaDoorCkOneD
import Derived.Test.YtaagnifagahgfaaDoorCkOneE
import Derived.Test.YtaagnifagahgfaaDoorLgAll18
namespace Go.Proofs.YtaagnifagahgfaaDoor
open Go.RowKit

theorem behind_moves (op : Wd) (s : Sd) : behind op s = ⟨s.n + movesM op + (if op.tag = 16 then 2 else 0), s.v - takesM op.tag + putsM op.tag⟩ := by
  unfold behind movesM
  congr 1
  by_cases h7 : op.tag = 7
  · rw [if_pos h7, if_pos h7, if_neg (by omega)]; omega
  · rw [if_neg h7, if_neg h7]
    by_cases h8 : op.tag = 8
    · rw [if_pos h8, if_pos h8, if_neg (by omega)]; omega
    · rw [if_neg h8, if_neg h8]
      by_cases h16 : op.tag = 16
      · rw [if_pos h16, if_pos h16]; omega
      · rw [if_neg h16, if_neg h16]; omega
theorem law_one (ops : List Wd) (C : Tb × Bool) (k : Nat) (s : Sd) (w : World) (B g : Nat) (vl vt : Value) (h : SW w B g ops vl C vt) (hl : C.1.length = ops.length) (hk : C.1.getD k none = some s) (hkl : k < ops.length) (hlen : ops.length ≤ 200) (hn : 0 ≤ s.n ∧ s.n ≤ 1000) (hvm : s.v ≤ 1000)
    (hT : 1 ≤ (ops.getD k op0).tag ∧ (ops.getD k op0).tag ≤ 24) (hnu : 0 ≤ (ops.getD k op0).num ∧ (ops.getD k op0).num ≤ 1048576) (hC : C.2 = false) :
    Calls Tryd.prog 25 #[.pointer (some ⟨g, 0, none⟩), .int .i64 (k : Int)] w fun r w' => r = .returned (.tuple #[]) ∧ SW w' B g ops vl (oneM ops C k s) vt ∧ Sm w w' g vt := by
  have hbh := behind_moves (ops.getD k op0) s
  unfold oneM goes
  by_cases hv : s.v < takesM (ops.getD k op0).tag
  · rw [if_pos hv]
    exact one_few ops C k s w B g vl vt h hl hk hkl hlen hn hvm hT hnu hv
  rw [if_neg hv]
  by_cases h3 : (ops.getD k op0).tag = 3
  · have hmv : movesM (ops.getD k op0) = 0 := by unfold movesM; rw [h3]; rfl
    by_cases hnn : s.n ≤ (ops.getD k op0).num
    · rw [if_pos ⟨h3, hnn⟩]
      exact one_var ops C k s w B g vl vt h hl hk hkl hlen hn hvm hT hnu hv h3 hnn
    · rw [if_neg (fun e => hnn e.2), if_neg (by omega), if_neg (by omega)]
      have ha : aside (ops.getD k op0) s = [] := by
        unfold aside
        rw [if_neg (by omega), if_neg (by omega), if_neg (by omega)]
      have := one_name ops C k s w B g vl vt h hl hk hkl hlen hn hvm hT hnu hv h3 hnn
      rw [ha, hbh, if_neg (by omega), Int.add_zero]
      exact this
  rw [if_neg (fun e => h3 e.1)]
  by_cases h24 : (ops.getD k op0).tag = 24
  · rw [if_pos h24]
    by_cases h1 : s.v = 1
    · rw [if_pos h1]
      exact one_give ops C k s w B g vl vt h hl hk hkl hlen hn hvm hT hnu hv h24 hC h1
    · rw [if_neg h1]
      exact one_giveNo ops C k s w B g vl vt h hl hk hkl hlen hn hvm hT hnu hv h24 hC h1
  rw [if_neg h24]
  by_cases h10 : (ops.getD k op0).tag = 10
  · rw [if_pos h10]
    have hmv : movesM (ops.getD k op0) = 0 := by unfold movesM; rw [h10]; rfl
    have ha : aside (ops.getD k op0) s = [((ops.getD k op0).num.toNat, ⟨s.n, s.v - takesM (ops.getD k op0).tag + putsM (ops.getD k op0).tag⟩)] := by
      unfold aside
      rw [if_neg (by omega), if_neg (by omega), if_pos (by omega)]
    have := one_go ops C k s w B g vl vt h hl hk hkl hlen hn hvm hT hnu hv h10
    rw [hmv, Int.add_zero] at this
    rw [ha]
    exact this
  rw [if_neg h10]
  by_cases h4 : (ops.getD k op0).tag = 4
  · have ha : aside (ops.getD k op0) s = [((ops.getD k op0).num.toNat, ⟨s.n + 1, 0⟩)] := by
      unfold aside
      rw [if_pos h4]
    have := one_fun ops C k s w B g vl vt h hl hk hkl hlen hn hvm hT hnu hv h4
    rw [ha, hbh, if_neg (by omega), Int.add_zero]
    exact this
  by_cases h5 : (ops.getD k op0).tag = 5
  · have ha : aside (ops.getD k op0) s = [((ops.getD k op0).num.toNat, ⟨s.n + 2, 0⟩)] := by
      unfold aside
      rw [if_neg h4, if_pos h5]
    have := one_rec ops C k s w B g vl vt h hl hk hkl hlen hn hvm hT hnu hv h5
    rw [ha, hbh, if_neg (by omega), Int.add_zero]
    exact this
  by_cases h9 : (ops.getD k op0).tag = 9
  · have hmv : movesM (ops.getD k op0) = 0 := by unfold movesM; rw [h9]; rfl
    have ha : aside (ops.getD k op0) s = [((ops.getD k op0).num.toNat, ⟨s.n, s.v - takesM (ops.getD k op0).tag + putsM (ops.getD k op0).tag⟩)] := by
      unfold aside
      rw [if_neg h4, if_neg h5, if_pos (by omega)]
    have := one_if ops C k s w B g vl vt h hl hk hkl hlen hn hvm hT hnu hv h9
    rw [ha, hbh, if_neg (by omega), Int.add_zero]
    rw [hmv, Int.add_zero] at this ⊢
    exact this
  by_cases h16 : (ops.getD k op0).tag = 16
  · have hmv : movesM (ops.getD k op0) = 0 := by unfold movesM; rw [h16]; rfl
    have ha : aside (ops.getD k op0) s = [((ops.getD k op0).num.toNat, ⟨s.n, s.v - takesM (ops.getD k op0).tag + putsM (ops.getD k op0).tag⟩)] := by
      unfold aside
      rw [if_neg h4, if_neg h5, if_pos (by omega)]
    have := one_case ops C k s w B g vl vt h hl hk hkl hlen hn hvm hT hnu hv h16
    rw [ha, hbh, if_pos h16]
    rw [hmv, Int.add_zero] at this ⊢
    exact this
  have ha : aside (ops.getD k op0) s = [] := by
    unfold aside
    rw [if_neg h4, if_neg h5, if_neg (by omega)]
  have := one_next ops C k s w B g vl vt h hl hk hkl hlen hn hvm hT hnu hv h24 h10 h4 h5 h9 h16 h3
  rw [ha, hbh, if_neg h16, Int.add_zero]
  exact this
end Go.Proofs.YtaagnifagahgfaaDoor

namespace Go.Proofs.YtaagnifagahgfaaDoor
open Go.RowKit

def flagsV (l : List Bool) : List Value := l.map (.bool ·)
theorem flagsV_length (l : List Bool) : (flagsV l).length = l.length := by simp [flagsV]
theorem make_flags (n : Nat) (hn : n ≤ 1048576) (w : World) : (Instr.makeSlice 50 (.int .i64 (n : Int)) (.int .i64 (n : Int))).run Tryd.prog w =
    .ok (.slice (some ⟨w.heap.size, 0, none⟩) n n) (w.alloc (.cells (madeCells #[.bool false] n) 4)) := by
  have hinfo : (Tryd.prog.info? 4).map (fun i => (i.zero, i.size, i.bytes)) = some (some (.bool false), 1, 1) := by kernel_rfl
  obtain ⟨i, hi, hz⟩ := Option.map_eq_some_iff.1 hinfo
  simp only [Prod.mk.injEq] at hz
  obtain ⟨hz, hs, hb⟩ := hz
  have hr := run_make (P := Tryd.prog) w 50 4 i _ Tryd.underlying50 hi hz .i64 .i64 n n (by omega) (Int.le_refl _) (by rw [hb]; omega) (by omega)
  simpa [hs, Value.cells] using hr
theorem make_known (n : Nat) (hn : n ≤ 1048576) (w : World) : (Instr.makeSlice 47 (.int .i64 (n : Int)) (.int .i64 (n : Int))).run Tryd.prog w =
    .ok (.slice (some ⟨w.heap.size, 0, none⟩) n n) (w.alloc (.cells (madeCells #[.int .i64 0, .int .i64 0, .bool false] (n * 3)) 53)) := by
  have hinfo : (Tryd.prog.info? 53).map (fun i => (i.zero, i.size, i.bytes)) = some (some (.agg #[.int .i64 0, .int .i64 0, .bool false]), 3, 24) := by kernel_rfl
  obtain ⟨i, hi, hz⟩ := Option.map_eq_some_iff.1 hinfo
  simp only [Prod.mk.injEq] at hz
  obtain ⟨hz, hs, hb⟩ := hz
  have hr := run_make (P := Tryd.prog) w 47 53 i _ Tryd.underlying47 hi hz .i64 .i64 n n (by omega) (Int.le_refl _) (by rw [hb]; omega) (by omega)
  simpa [hs, Value.cells] using hr
/-- What was gone through, in memory. -/
def Flags (w : World) (z : Nat) (D : List Bool) : Prop := w.ownsRow z 4 1 (.slice (some ⟨z, 0, none⟩) D.length D.length) D.length (flagsV D)
theorem Flags.keep {w w' : World} {z : Nat} {D : List Bool} (h : Flags w z D) (hs : w'.heap[z]? = w.heap[z]?) : Flags w' z D := by
  obtain ⟨h1, ⟨h2, h3⟩ | ⟨b, cap, cur, e, hb, hh, r⟩⟩ := h
  · cases h2
  · have : z = b := by simp at e; exact e.1
    subst this
    exact ⟨h1, Or.inr ⟨z, cap, cur, e, hb, by rw [hs]; exact hh, r⟩⟩
theorem Flags.at {w : World} {z : Nat} {D : List Bool} (h : Flags w z D) {k : Nat} (hk : k < D.length) : w.cell? ⟨z, k, none⟩ = some (.bool D[k]) ∧ w.frozen? ⟨z, k, none⟩ = false ∧ z < w.heap.size := by
  obtain ⟨h1, h2⟩ := ow_cell h k (by rw [flagsV_length]; exact hk)
  refine ⟨?_, h2, (World.ownsRow.lt h z rfl).2⟩
  rw [h1]
  simp [flagsV]
theorem Flags.set {w : World} {z : Nat} {D : List Bool} (h : Flags w z D) (k : Nat) : Flags (w.setCell ⟨z, k, none⟩ (.bool true)) z (D.set k true) := by
  have h1 := ow_set h k (.bool true)
  unfold Flags
  rw [List.length_set]
  have e : flagsV (D.set k true) = (flagsV D).set k (.bool true) := by simp [flagsV, List.map_set]
  rw [e]
  exact h1
/-- The rounds as they begin. -/
theorem sw_start (w : World) (ops : List Wd) (vl : Value) (h : Words w (· < w.heap.size) ops vl) (hl : ops.length ≤ 200) :
    SW (((w.alloc (.cells (madeCells #[.int .i64 0, .int .i64 0, .bool false] (ops.length * 3)) 53)).alloc (.cells #[vl, .slice (some ⟨w.heap.size, 0, none⟩) ops.length ops.length, .bool false] 49)).alloc (.cells (madeCells #[.bool false] ops.length) 4)) w.heap.size (w.heap.size + 1) ops vl (List.replicate ops.length none, false) (.slice (some ⟨w.heap.size, 0, none⟩) ops.length ops.length) ∧
    Flags (((w.alloc (.cells (madeCells #[.int .i64 0, .int .i64 0, .bool false] (ops.length * 3)) 53)).alloc (.cells #[vl, .slice (some ⟨w.heap.size, 0, none⟩) ops.length ops.length, .bool false] 49)).alloc (.cells (madeCells #[.bool false] ops.length) 4)) (w.heap.size + 2) (List.replicate ops.length false) ∧
    Below w.heap.size w (((w.alloc (.cells (madeCells #[.int .i64 0, .int .i64 0, .bool false] (ops.length * 3)) 53)).alloc (.cells #[vl, .slice (some ⟨w.heap.size, 0, none⟩) ops.length ops.length, .bool false] 49)).alloc (.cells (madeCells #[.bool false] ops.length) 4)) := by
  have hz1 : (w.alloc (.cells (madeCells #[.int .i64 0, .int .i64 0, .bool false] (ops.length * 3)) 53)).heap.size = w.heap.size + 1 := by simp
  have hz2 : ((w.alloc (.cells (madeCells #[.int .i64 0, .int .i64 0, .bool false] (ops.length * 3)) 53)).alloc (.cells #[vl, .slice (some ⟨w.heap.size, 0, none⟩) ops.length ops.length, .bool false] 49)).heap.size = w.heap.size + 2 := by simp
  have hb2 : Below w.heap.size w ((w.alloc (.cells (madeCells #[.int .i64 0, .int .i64 0, .bool false] (ops.length * 3)) 53)).alloc (.cells #[vl, .slice (some ⟨w.heap.size, 0, none⟩) ops.length ops.length, .bool false] 49)) := ((Below.refl _ _).alloc (Nat.le_refl _) _).alloc (by omega) _
  have hS : SW ((w.alloc (.cells (madeCells #[.int .i64 0, .int .i64 0, .bool false] (ops.length * 3)) 53)).alloc (.cells #[vl, .slice (some ⟨w.heap.size, 0, none⟩) ops.length ops.length, .bool false] 49)) w.heap.size (w.heap.size + 1) ops vl (List.replicate ops.length none, false) (.slice (some ⟨w.heap.size, 0, none⟩) ops.length ops.length) := by
    refine ⟨by omega, ?_, h.same fun k hk => ⟨hb2.block k hk, hk⟩, ?_, fun e => ?_⟩
    · have := heap_alloc_new (w.alloc (.cells (madeCells #[.int .i64 0, .int .i64 0, .bool false] (ops.length * 3)) 53)) (.cells #[vl, .slice (some ⟨w.heap.size, 0, none⟩) ops.length ops.length, .bool false] 49)
      rw [hz1] at this
      exact this
    · have h0 := made3_own w (.int .i64 0) (.int .i64 0) (.bool false) ops.length w.heap.size 53 (Nat.le_refl _) (by omega)
      have e : (List.replicate ops.length (none : Option Sd)).flatMap stateV = (List.replicate ops.length [Value.int .i64 0, .int .i64 0, .bool false]).flatten := by
        rw [List.flatMap_def, List.map_replicate]
        rfl
      show World.ownsRow _ _ _ 3 _ (List.replicate ops.length (none : Option Sd)).length _
      rw [List.length_replicate, e]
      exact h0.alloc _
    · simp [Value.ownBlock] at e
  refine ⟨hS.keep ((Below.refl _ _).alloc (Nat.le_refl _) _), ?_, hb2.alloc (by omega) _⟩
  unfold Flags
  rw [List.length_replicate]
  refine ⟨by simp [flagsV], Or.inr ⟨w.heap.size + 2, ops.length, madeCells #[.bool false] ops.length, rfl, Nat.le_refl _, ?_, Nat.le_refl _, by unfold maxLen; omega, by simp [size_madeCells], ?_⟩⟩
  · have := heap_alloc_new ((w.alloc (.cells (madeCells #[.int .i64 0, .int .i64 0, .bool false] (ops.length * 3)) 53)).alloc (.cells #[vl, .slice (some ⟨w.heap.size, 0, none⟩) ops.length ops.length, .bool false] 49)) (.cells (madeCells #[.bool false] ops.length) 4)
    rw [hz2] at this
    exact this
  · rw [toList_madeCells_one]
    simp [flagsV]
end Go.Proofs.YtaagnifagahgfaaDoor

