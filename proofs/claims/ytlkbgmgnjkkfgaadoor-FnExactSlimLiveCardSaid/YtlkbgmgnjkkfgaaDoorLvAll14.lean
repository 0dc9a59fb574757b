/-
  The program's standsFit: how it begins, how a place is taken.
  The program's standsFit.
-/
import Derived.Test.YtlkbgmgnjkkfgaaDoorLvAll13
namespace Go.Proofs.YtlkbgmgnjkkfgaaDoor
open Go.RowKit

theorem make_stands (n : Nat) (hn : n ≤ 1048576) (w : World) : (Instr.makeSlice 66 (.int .i64 (n : Int)) (.int .i64 (n : Int))).run Tryd.prog w =
    .ok (.slice (some ⟨w.heap.size, 0, none⟩) n n) (w.alloc (.cells (madeCells #[.bool false, .int .i64 0, .int .i64 0] (n * 3)) 71)) := by
  have hinfo : (Tryd.prog.info? 71).map (fun i => (i.zero, i.size, i.bytes)) = some (some (.agg #[.bool false, .int .i64 0, .int .i64 0]), 3, 24) := by kernel_rfl
  obtain ⟨i, hi, hz⟩ := Option.map_eq_some_iff.1 hinfo
  simp only [Prod.mk.injEq] at hz
  obtain ⟨hz, hs, hb⟩ := hz
  have hr := run_make (P := Tryd.prog) w 66 71 i _ Tryd.underlying66 hi hz .i64 .i64 n n (by omega) (Int.le_refl _) (by rw [hb]; omega) (by omega)
  simpa [hs, Value.cells] using hr
/-- The walk as it begins. -/
theorem cw_start (w : World) (ops : List Wd) (vl : Value) (h : Words w (· < w.heap.size) ops vl) (hl : ops.length ≤ 200) :
    CW ((w.alloc (.cells (madeCells #[.bool false, .int .i64 0, .int .i64 0] (ops.length * 3)) 71)).alloc (.cells #[vl, .slice (some ⟨w.heap.size, 0, none⟩) ops.length ops.length, .slice none 0 0] 68)) w.heap.size (w.heap.size + 1) ops vl (List.replicate ops.length none, []) (.slice (some ⟨w.heap.size, 0, none⟩) ops.length ops.length) (.slice none 0 0) ∧
    Below w.heap.size w ((w.alloc (.cells (madeCells #[.bool false, .int .i64 0, .int .i64 0] (ops.length * 3)) 71)).alloc (.cells #[vl, .slice (some ⟨w.heap.size, 0, none⟩) ops.length ops.length, .slice none 0 0] 68)) := by
  have hz1 : (w.alloc (.cells (madeCells #[.bool false, .int .i64 0, .int .i64 0] (ops.length * 3)) 71)).heap.size = w.heap.size + 1 := by simp
  have hb : Below w.heap.size w ((w.alloc (.cells (madeCells #[.bool false, .int .i64 0, .int .i64 0] (ops.length * 3)) 71)).alloc (.cells #[vl, .slice (some ⟨w.heap.size, 0, none⟩) ops.length ops.length, .slice none 0 0] 68)) := ((Below.refl _ _).alloc (Nat.le_refl _) _).alloc (by omega) _
  refine ⟨⟨by omega, ?_, h.same fun k hk => ⟨hb.block k hk, hk⟩, ?_, ⟨none, 0, rfl, Nat.le_refl _, by simp [maxLen], fun _ => rfl, fun a ha => (by cases ha)⟩, fun e => ?_, fun e => (by cases e), Or.inl rfl⟩, hb⟩
  · have := heap_alloc_new (w.alloc (.cells (madeCells #[.bool false, .int .i64 0, .int .i64 0] (ops.length * 3)) 71)) (.cells #[vl, .slice (some ⟨w.heap.size, 0, none⟩) ops.length ops.length, .slice none 0 0] 68)
    rw [hz1] at this
    exact this
  · have h0 := made3_own w (.bool false) (.int .i64 0) (.int .i64 0) ops.length w.heap.size 71 (Nat.le_refl _) (by omega)
    have e : (List.replicate ops.length (none : Option Sd)).flatMap standV = (List.replicate ops.length [Value.bool false, .int .i64 0, .int .i64 0]).flatten := by
      rw [List.flatMap_def, List.map_replicate]
      rfl
    show World.ownsRow _ _ _ 3 _ (List.replicate ops.length (none : Option Sd)).length _
    rw [List.length_replicate, e]
    exact h0.alloc _
  · simp [Value.ownBlock] at e
/-- The list is another one, and is noted. -/
theorem CW.note {w : World} {B g : Nat} {ops : List Wd} {vl vt vq : Value} {S : Tq} (h : CW w B g ops vl S vt vq) {q : List Nat} {v' : Value} (hq : Queue w B q v') (hnew : qB v' = qB vq) :
    CW (w.setCell ⟨g, 2, none⟩ v') B g ops vl (S.1, q) vt v' ∧ Mv w (w.setCell ⟨g, 2, none⟩ v') g vt vq v' := by
  have hgl := h.lt
  have hk : ∀ k, k ≠ g → (w.setCell ⟨g, 2, none⟩ v').heap[k]? = w.heap[k]? := fun k hk => Below.heap_setCell _ _ _ _ hk
  have hz : (w.setCell ⟨g, 2, none⟩ v').heap.size = w.heap.size := by simp [World.setCell]
  have hqg' : qB v' ≠ some g := by rw [hnew]; exact h.qg
  have hB := h.hB
  refine ⟨⟨h.hB, ?_, h.list.same fun k hlt => ⟨hk k (by omega), hlt⟩, ?_, hq.same (by omega) fun k _ he => hk k (fun e => hqg' (by rw [← he, e])), h.tg, hqg', by rw [hnew]; exact h.qt⟩, ⟨rfl, rfl, rfl, by omega, fun k h1 h2 _ _ => hk k h2, fun k h1 h2 => by rw [hnew]; exact h2⟩⟩
  · unfold World.setCell
    simp only [Array.getElem?_modify]
    rw [h.blk]
    simp
  · obtain ⟨h1, ⟨h2, h3⟩ | ⟨b, cap, cur, rfl, hb, hh, r⟩⟩ := h.tab
    · exact ⟨h1, Or.inl ⟨h2, h3⟩⟩
    · refine ⟨h1, Or.inr ⟨b, cap, cur, rfl, hb, ?_, r⟩⟩
      rw [hk b (fun e => h.tg (by rw [← e]; rfl))]
      exact hh
/-- The first of a list. -/
theorem Queue.first {w : World} {B p : Nat} {q : List Nat} {v : Value} (h : Queue w B (p :: q) v) : ∃ ob off cap, v = .slice (some ⟨ob, off, none⟩) (q.length + 1) cap ∧ q.length + 1 ≤ cap ∧ ob < w.heap.size ∧ w.cell? ⟨ob, off, none⟩ = some (.int .i64 (p : Int)) ∧
    ∀ ao', (0 < cap - 1 → ao' = some ⟨ob, off + 1, none⟩) → (∃ o s, ao' = some ⟨ob, o, s⟩) → Queue w B q (.slice ao' q.length (cap - 1)) := by
  obtain ⟨ao, cap, rfl, h1, h2, h3, h4⟩ := h.ex
  simp only [List.length_cons] at h1
  cases hao : ao with
  | none => have := h3 hao; omega
  | some a0 =>
    obtain ⟨b1, b2, b3⟩ := h4 a0 hao
    obtain ⟨ob, off, cur, rfl, hh, hsz, hx⟩ := b3 (by omega)
    refine ⟨ob, off, cap, rfl, h1, b2, ?_, fun ao' h5 h6 => ⟨ao', cap - 1, rfl, by omega, by omega, fun e => ?_, fun a ha => ?_⟩⟩
    · rw [cell_of_row _ _ _ _ _ _ hh]
      exact hx 0 p rfl
    · obtain ⟨o, s, e'⟩ := h6
      rw [e'] at e
      cases e
    · obtain ⟨o, s, e'⟩ := h6
      rw [e'] at ha
      cases ha
      refine ⟨b1, b2, fun hc => ?_⟩
      have h7 := h5 hc
      rw [e'] at h7
      cases h7
      refine ⟨ob, off + 1, cur, rfl, hh, by omega, fun i y hi => ?_⟩
      have := hx (i + 1) y hi
      rw [show off + 1 + i = off + (i + 1) by omega]
      exact this
end Go.Proofs.YtlkbgmgnjkkfgaaDoor

namespace Go.Proofs.YtlkbgmgnjkkfgaaDoor
open Go.RowKit

def startQ (ops : List Wd) : Tq := ((List.replicate ops.length none).set 0 (some ⟨0, 0⟩), [0])
theorem start_getD (n k : Nat) : ((List.replicate n (none : Option Sd)).getD k none) = none := by
  rw [List.getD_eq_getElem?_getD, List.getElem?_replicate]
  split <;> rfl
theorem start_lead (ops : List Wd) (hl : 1 ≤ ops.length) : leadQ (List.replicate ops.length none, []) (0, ⟨0, 0⟩) = some (startQ ops) := by
  unfold leadQ
  rw [if_neg (by rintro (h | h); · simp only [List.length_replicate] at h; omega
                 · exact absurd h (by decide))]
  rw [start_getD]
  rfl
theorem start_at (ops : List Wd) (hl : 1 ≤ ops.length) (k : Nat) (s : Sd) (h : (startQ ops).1.getD k none = some s) : k = 0 ∧ s = ⟨0, 0⟩ := by
  have h : ((List.replicate ops.length (none : Option Sd)).set 0 (some ⟨0, 0⟩)).getD k none = some s := h
  rw [getD_set (by simp; omega)] at h
  split at h
  · cases h
    exact ⟨by assumption, rfl⟩
  · rw [start_getD] at h
    cases h
theorem start_ok (ops : List Wd) (hl : 1 ≤ ops.length) : Qok (startQ ops) 0 ∧ Bd 0 (startQ ops).1 ∧ (startQ ops).1.length = ops.length := by
  refine ⟨⟨fun k hk => ?_, ?_⟩, fun k s h => ?_, by simp [startQ]⟩
  · have : k = 0 := by simpa [startQ] using hk
    subst this
    refine ⟨⟨0, 0⟩, ?_⟩
    show ((List.replicate ops.length (none : Option Sd)).set 0 (some ⟨0, 0⟩)).getD 0 none = _
    rw [getD_set (by simp; omega), if_pos rfl]
  · show cnt ((List.replicate ops.length (none : Option Sd)).set 0 (some ⟨0, 0⟩)) = 0 + [0].length
    rw [cnt_set (by simp; omega) (start_getD _ _)]
    simp [cnt, List.countP_replicate]
  · obtain ⟨_, rfl⟩ := start_at ops hl k s h
    exact ⟨Int.le_refl _, Int.le_refl _, Int.le_refl _⟩
theorem runQ_nil (ops : List Wd) (n : Nat) (S : Tq) (h : S.2 = []) : runQ ops n S = true := by
  cases n with
  | zero => rfl
  | succ n => rw [runQ, h]
theorem runQ_cons (ops : List Wd) (n k : Nat) (T : Tb) (q : List Nat) : runQ ops (n + 1) (T, k :: q) = match followQ ops (T, q) k with | none => false | some S' => runQ ops n S' := rfl
/-- A walk under way. -/
def Way (w wr : World) (B g : Nat) (ops : List Wd) (vl vt : Value) (R : Bool) (k : Nat) (f : Value) : Prop :=
  (f = .bool true ∧ ∃ (j : Nat) (S : Tq) (vq : Value), j + k = ops.length + 1 ∧ runQ ops (ops.length - j) S = R ∧ CW wr B g ops vl S vt vq ∧ Qok S j ∧ Bd j S.1 ∧ S.1.length = ops.length ∧ Below B w wr) ∨
  (f = .bool false ∧ R = false ∧ Below B w wr)

set_option maxRecDepth 100000 in
set_option maxHeartbeats 4000000 in
theorem impl_standsFit (ops : List Wd) (hlen : 1 ≤ ops.length ∧ ops.length ≤ 200) (hf : ∀ k, k < ops.length → fitsM (ops.getD k op0) ops.length = true) (w : World) (vl : Value) (hv : Words w (· < w.heap.size) ops vl) :
    Calls Tryd.prog 25 #[vl] w fun r w' => r = .returned (.bool (runQ ops ops.length (startQ ops))) ∧ Below w.heap.size w w' := by
  obtain ⟨a, cap, rfl⟩ := hv.slice
  have hmk := make_stands ops.length (by omega)
  obtain ⟨h0, hb0⟩ := cw_start w ops _ hv hlen.2
  obtain ⟨hqo, hbd, hln⟩ := start_ok ops hlen.1
  have hst := start_lead ops hlen.1
  generalize startQ ops = S0 at *
  generalize hR : runQ ops ops.length S0 = R
  have hh0 : Hid (CW ((w.alloc (.cells (madeCells #[.bool false, .int .i64 0, .int .i64 0] (ops.length * 3)) 71)).alloc (.cells #[.slice a ops.length cap, .slice (some ⟨w.heap.size, 0, none⟩) ops.length ops.length, .slice none 0 0] 68)) w.heap.size (w.heap.size + 1) ops (.slice a ops.length cap) (List.replicate ops.length none, []) (.slice (some ⟨w.heap.size, 0, none⟩) ops.length ops.length) (.slice none 0 0)) := h0
  clear h0
  go_enter Tryd.func25, Tryd.ntmps25
  go_wp2_with (go_at_call 31; refine (leadsI ops (List.replicate ops.length none, []) 0 0 rfl ⟨0, 0⟩ _ w.heap.size (w.heap.size + 1) _ _ _ hh0.out (by simp) (by simp)).mono ?_; rintro r w3 hL; rw [hst] at hL; obtain ⟨rfl, vq1, hC1, hM1⟩ := hL)
  have hB1 : Below w.heap.size w w3 := hb0.trans (hh0.out.below hM1)
  clear hM1 hb0 hh0 hmk
  generalize hvt : Value.slice (some ⟨w.heap.size, 0, none⟩) ops.length ops.length = vt at *
  generalize hvl : Value.slice a ops.length cap = vl at *
  go_loopg [4] (ops.length + 1) (fun k f wr => Way w wr w.heap.size (w.heap.size + 1) ops vl vt R k f)
  case atStart => exact Or.inl ⟨rfl, 0, S0, vq1, by omega, hR, hC1, hqo, hbd, hln, hB1⟩
  case round =>
    clear hC1 hqo hbd hln hB1 hst
    rcases hrel with ⟨rfl, j, S, vq, hj, hRj, hC, hQ, hBd, hS, hBw⟩ | ⟨rfl, hRf, hBw⟩
    · have hcl := cnt_le S.1
      have hnum := hQ.num
      obtain ⟨c0, c1, c2, cf⟩ := hC.cells
      cases hq2 : S.2 with
      | nil =>
        rw [runQ_nil ops _ S hq2] at hRj
        obtain ⟨ao, cp, rfl, hrest⟩ := hC.que.ex
        rw [hq2] at c2
        simp only [List.length_nil] at c2
        subst hRj
        clear hC hQ hBd hrest c0 c1 cf hq2 hf hv hvt hvl hR hcl hnum hS hj
        go_wp2_with fail
        go_ret
        exact ⟨rfl, hBw⟩
      | cons p q =>
        obtain ⟨s, hks⟩ := hQ.known p (by rw [hq2]; simp)
        have hpl : p < ops.length := by
          apply Decidable.byContradiction
          intro hn
          rw [List.getD_eq_getElem?_getD, List.getElem?_eq_none (by omega)] at hks
          cases hks
        have hsb := hBd p s hks
        have hql : S.2.length = q.length + 1 := by rw [hq2]; rfl
        have hCq := hC.que
        rw [hq2] at hCq
        obtain ⟨ob, off, cp, rfl, hcp, hob, hfst, hnx⟩ := hCq.first
        obtain ⟨T, q2⟩ := S
        simp only at hq2 hks hS hBd hcl hnum hql
        subst hq2
        have hQ1 : Qok (T, q) (j + 1) := ⟨fun k hk => hQ.known k (List.mem_cons_of_mem _ hk), by
          have := hQ.num
          show cnt T = _
          simp only [List.length_cons] at this
          show cnt T = j + 1 + q.length
          omega⟩
        have hBd1 : Bd (j : Int) T := hBd
        rw [show ops.length - j = (ops.length - (j + 1)) + 1 by omega, runQ_cons] at hRj
        have hfit := hf p hpl
        have hf8 : (ops.getD p op0).tag = 8 → 0 ≤ (ops.getD p op0).num := fun e => by
          have h1 := of_decide_eq_true hfit
          have h2 := h1.2.2.1
          rw [e] at h2
          change (1 : Int) ≤ _ at h2
          omega
        have hCC : Hid (CW wr w.heap.size (w.heap.size + 1) ops vl (T, p :: q) vt (.slice (some ⟨ob, off, none⟩) (q.length + 1) cp)) := hC
        have hNN : Hid (∀ ao', (0 < cp - 1 → ao' = some ⟨ob, off + 1, none⟩) → (∃ o s, ao' = some ⟨ob, o, s⟩) → Queue wr w.heap.size q (.slice ao' q.length (cp - 1))) := hnx
        have f2 := cf 2
        have hneg : ob ≠ w.heap.size + 1 := fun e => hC.qg (by rw [e]; rfl)
        clear hC hQ hBd hCq hnx c0 c1 cf hf hv hvt hvl
        go_upto_region 6 with fail
        have hao : ∃ o sp, (if cp = 1 then (some ⟨ob, off, none⟩ : Option Addr) else some ⟨ob, off + 1, none⟩) = some ⟨ob, o, sp⟩ := by
          by_cases e : cp = 1
          · exact ⟨off, none, by rw [if_pos e]⟩
          · exact ⟨off + 1, none, by rw [if_neg e]⟩
        have hqv := hNN.out (if cp = 1 then some ⟨ob, off, none⟩ else some ⟨ob, off + 1, none⟩) (fun h => if_neg (by omega)) hao
        generalize (if cp = 1 then (some ⟨ob, off, none⟩ : Option Addr) else some ⟨ob, off + 1, none⟩) = ao' at hqv hao ⊢
        obtain ⟨o', sp', rfl⟩ := hao
        obtain ⟨hC2, hM2⟩ := hCC.out.note hqv rfl
        have hb2 := hCC.out.below hM2
        simp only [List.length_cons] at hnum
        have hj2 : j ≤ 200 := by omega
        have hq9 : ((T, q) : Tq).2.length ≤ 900 := by show q.length ≤ 900; omega
        have hs1 : 0 ≤ s.n ∧ s.n ≤ 1000 := by omega
        have hs2 : s.v ≤ 1000 := by omega
        go_wp2_with (go_at_call 32; refine (law_follow ops (T, q) p s _ w.heap.size (w.heap.size + 1) _ _ _ hC2 hS hks hpl hlen.2 hq9 hs1 hs2 hfit).mono ?_; rintro r w5 hL; obtain rfl := hL.bool)
        go_roundg (ops.length - j)
        case measure => omega
        case rel =>
          cases hfo : followQ ops (T, q) p with
          | none =>
            rw [hfo] at hL hRj
            obtain ⟨_, vq9, hM9⟩ := hL
            exact Or.inr ⟨rfl, hRj.symm, hBw.trans (hb2.trans (hC2.below hM9))⟩
          | some S' =>
            rw [hfo] at hL hRj
            obtain ⟨_, vq9, hC9, hM9⟩ := hL
            exact Or.inl ⟨rfl, j + 1, S', vq9, by omega, hRj, hC9, followQ_ok hfo hQ1, followQ_bd hfo hBd1 (by omega) hks hf8, (followQ_len hfo).trans hS, hBw.trans (hb2.trans (hC2.below hM9))⟩
    · subst hRf
      clear hf hv hvt hvl
      go_wp2_with fail
      go_ret
      exact ⟨rfl, hBw⟩
end Go.Proofs.YtlkbgmgnjkkfgaaDoor

