/-
  The specification's one: of whatever op.
-/
import Derived.Test.YtmbldcmmpbodgaaDoorCkOneB
import Derived.Test.YtmbldcmmpbodgaaDoorCkOneC
import Derived.Test.YtmbldcmmpbodgaaDoorCkOneD
import Derived.Test.YtmbldcmmpbodgaaDoorCkOneE
namespace Go.Proofs.YtmbldcmmpbodgaaDoor
open Go.RowKit

theorem behind_moves (op : Wd) (s : Sd) : behind op s = ⟨s.n + movesM op + (if op.tag = 16 then 2 else 0), s.v - takesM op.tag + putsM op.tag⟩ := by
  unfold behind movesM
  congr 1
  by_cases h7 : op.tag = 7
  · rw [if_pos h7, if_pos h7, if_neg (by omega)]; omega
  · rw [if_neg h7, if_neg h7]
    by_cases h8 : op.tag = 8
    · rw [if_pos h8, if_pos h8, if_neg (by omega)]; omega
    · rw [if_neg h8, if_neg h8]
      by_cases h16 : op.tag = 16
      · rw [if_pos h16, if_pos h16]; omega
      · rw [if_neg h16, if_neg h16]; omega
theorem law_one (ops : List Wd) (C : Tb × Bool) (k : Nat) (s : Sd) (w : World) (B g : Nat) (vl vt : Value) (h : SW w B g ops vl C vt) (hl : C.1.length = ops.length) (hk : C.1.getD k none = some s) (hkl : k < ops.length) (hlen : ops.length ≤ 200) (hn : 0 ≤ s.n ∧ s.n ≤ 1000) (hvm : s.v ≤ 1000)
    (hT : 1 ≤ (ops.getD k op0).tag ∧ (ops.getD k op0).tag ≤ 24) (hnu : 0 ≤ (ops.getD k op0).num ∧ (ops.getD k op0).num ≤ 1048576) (hC : C.2 = false) :
    Calls Tryd.prog 18 #[.pointer (some ⟨g, 0, none⟩), .int .i64 (k : Int)] w fun r w' => r = .returned (.tuple #[]) ∧ SW w' B g ops vl (oneM ops C k s) vt ∧ Sm w w' g vt := by
  have hbh := behind_moves (ops.getD k op0) s
  unfold oneM goes
  by_cases hv : s.v < takesM (ops.getD k op0).tag
  · rw [if_pos hv]
    exact one_few ops C k s w B g vl vt h hl hk hkl hlen hn hvm hT hnu hv
  rw [if_neg hv]
  by_cases h3 : (ops.getD k op0).tag = 3
  · have hmv : movesM (ops.getD k op0) = 0 := by unfold movesM; rw [h3]; rfl
    by_cases hnn : s.n ≤ (ops.getD k op0).num
    · rw [if_pos ⟨h3, hnn⟩]
      exact one_var ops C k s w B g vl vt h hl hk hkl hlen hn hvm hT hnu hv h3 hnn
    · rw [if_neg (fun e => hnn e.2), if_neg (by omega), if_neg (by omega)]
      have ha : aside (ops.getD k op0) s = [] := by
        unfold aside
        rw [if_neg (by omega), if_neg (by omega), if_neg (by omega)]
      have := one_name ops C k s w B g vl vt h hl hk hkl hlen hn hvm hT hnu hv h3 hnn
      rw [ha, hbh, if_neg (by omega), Int.add_zero]
      exact this
  rw [if_neg (fun e => h3 e.1)]
  by_cases h24 : (ops.getD k op0).tag = 24
  · rw [if_pos h24]
    by_cases h1 : s.v = 1
    · rw [if_pos h1]
      exact one_give ops C k s w B g vl vt h hl hk hkl hlen hn hvm hT hnu hv h24 hC h1
    · rw [if_neg h1]
      exact one_giveNo ops C k s w B g vl vt h hl hk hkl hlen hn hvm hT hnu hv h24 hC h1
  rw [if_neg h24]
  by_cases h10 : (ops.getD k op0).tag = 10
  · rw [if_pos h10]
    have hmv : movesM (ops.getD k op0) = 0 := by unfold movesM; rw [h10]; rfl
    have ha : aside (ops.getD k op0) s = [((ops.getD k op0).num.toNat, ⟨s.n, s.v - takesM (ops.getD k op0).tag + putsM (ops.getD k op0).tag⟩)] := by
      unfold aside
      rw [if_neg (by omega), if_neg (by omega), if_pos (by omega)]
    have := one_go ops C k s w B g vl vt h hl hk hkl hlen hn hvm hT hnu hv h10
    rw [hmv, Int.add_zero] at this
    rw [ha]
    exact this
  rw [if_neg h10]
  by_cases h4 : (ops.getD k op0).tag = 4
  · have ha : aside (ops.getD k op0) s = [((ops.getD k op0).num.toNat, ⟨s.n + 1, 0⟩)] := by
      unfold aside
      rw [if_pos h4]
    have := one_fun ops C k s w B g vl vt h hl hk hkl hlen hn hvm hT hnu hv h4
    rw [ha, hbh, if_neg (by omega), Int.add_zero]
    exact this
  by_cases h5 : (ops.getD k op0).tag = 5
  · have ha : aside (ops.getD k op0) s = [((ops.getD k op0).num.toNat, ⟨s.n + 2, 0⟩)] := by
      unfold aside
      rw [if_neg h4, if_pos h5]
    have := one_rec ops C k s w B g vl vt h hl hk hkl hlen hn hvm hT hnu hv h5
    rw [ha, hbh, if_neg (by omega), Int.add_zero]
    exact this
  by_cases h9 : (ops.getD k op0).tag = 9
  · have hmv : movesM (ops.getD k op0) = 0 := by unfold movesM; rw [h9]; rfl
    have ha : aside (ops.getD k op0) s = [((ops.getD k op0).num.toNat, ⟨s.n, s.v - takesM (ops.getD k op0).tag + putsM (ops.getD k op0).tag⟩)] := by
      unfold aside
      rw [if_neg h4, if_neg h5, if_pos (by omega)]
    have := one_if ops C k s w B g vl vt h hl hk hkl hlen hn hvm hT hnu hv h9
    rw [ha, hbh, if_neg (by omega), Int.add_zero]
    rw [hmv, Int.add_zero] at this ⊢
    exact this
  by_cases h16 : (ops.getD k op0).tag = 16
  · have hmv : movesM (ops.getD k op0) = 0 := by unfold movesM; rw [h16]; rfl
    have ha : aside (ops.getD k op0) s = [((ops.getD k op0).num.toNat, ⟨s.n, s.v - takesM (ops.getD k op0).tag + putsM (ops.getD k op0).tag⟩)] := by
      unfold aside
      rw [if_neg h4, if_neg h5, if_pos (by omega)]
    have := one_case ops C k s w B g vl vt h hl hk hkl hlen hn hvm hT hnu hv h16
    rw [ha, hbh, if_pos h16]
    rw [hmv, Int.add_zero] at this ⊢
    exact this
  have ha : aside (ops.getD k op0) s = [] := by
    unfold aside
    rw [if_neg h4, if_neg h5, if_neg (by omega)]
  have := one_next ops C k s w B g vl vt h hl hk hkl hlen hn hvm hT hnu hv h24 h10 h4 h5 h9 h16 h3
  rw [ha, hbh, if_neg h16, Int.add_zero]
  exact this
end Go.Proofs.YtmbldcmmpbodgaaDoor
