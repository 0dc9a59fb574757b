/-
  Ops to which something leads: the specification's l17Live.
-/
import Derived.Test.YtlkbgmgnjkkfgaaDoorLvAll20
import Derived.Test.YtlkbgmgnjkkfgaaDoorLvImpl
import Derived.Test.YtlkbgmgnjkkfgaaDoorHrMath
import Derived.Deep.CutBlock
import Derived.Deep.DeepCutAuto
import Derived.Maps.AppendAt
namespace Go.Proofs.YtlkbgmgnjkkfgaaDoor
open Go.RowKit

theorem lvBo : (Tryd.prog.info? 4).map (fun i => (i.zero, i.size, i.bytes)) = some (some (.bool false), 1, 1) := by kernel_rfl
theorem lv_make (n : Nat) (hn : n ≤ 1048576) (w : World) : (Instr.makeSlice 34 (.int .i64 (n : Int)) (.int .i64 (n : Int))).run Tryd.prog w =
    .ok (.slice (some ⟨w.heap.size, 0, none⟩) n n) (w.alloc (.cells (madeCells #[.bool false] n) 4)) := by
  obtain ⟨i, hi, hz, hs, hb⟩ := info_parts lvBo
  have hr := run_make (P := Tryd.prog) w 34 4 i _ Tryd.underlying34 hi hz .i64 .i64 n n (by omega) (Int.le_refl _) (by rw [hb]; omega) (by omega)
  simpa [hs, Value.cells] using hr
theorem lv_made (w : World) (n B : Nat) (hB : B ≤ w.heap.size) (hn : n ≤ 1048576) : (w.alloc (.cells (madeCells #[.bool false] n) 4)).ownsRow B 4 1 (.slice (some ⟨w.heap.size, 0, none⟩) n n) n (boolsV (List.replicate n false)) := by
  refine ⟨by simp [boolsV], Or.inr ⟨w.heap.size, n, madeCells #[.bool false] n, rfl, hB, heap_alloc_new _ _, Nat.le_refl _, by unfold maxLen; omega, by simp [size_madeCells], ?_⟩⟩
  rw [toList_madeCells_one]
  simp [boolsV]
theorem lv_bools_set (l : List Bool) (q : Nat) : boolsV (l.set q true) = (boolsV l).set q (.bool true) := by
  unfold boolsV
  rw [List.map_set]
theorem lv_bool_at {w : World} {B g n cap : Nat} {bs : List Bool} (h : w.ownsRow B 4 1 (.slice (some ⟨g, 0, none⟩) n cap) n (boolsV bs)) {q : Nat} (hq : q < bs.length) : w.cell? ⟨g, q, none⟩ = some (.bool (bs.getD q false)) ∧ w.frozen? ⟨g, q, none⟩ = false := by
  have := ow_cell h q (by rw [boolsV_length]; exact hq)
  refine ⟨?_, this.2⟩
  rw [this.1, List.getD_eq_getElem?_getD, List.getElem?_eq_getElem hq]
  simp [boolsV]

theorem lv_one (w : World) (z : Int) : (w.alloc (.cells #[.int .i64 z] 3)).ownsRow w.heap.size 3 1 (.slice (some ⟨w.heap.size, 0, none⟩) 1 1) 1 [.int .i64 z] :=
  ⟨rfl, Or.inr ⟨w.heap.size, 1, #[.int .i64 z], rfl, Nat.le_refl _, heap_alloc_new _ _, Nat.le_refl _, by unfold maxLen; omega, rfl, rfl⟩⟩
theorem bt_snoc' {w : World} {B k n : Nat} {l : List Nat} {v : Value} (hn : l.length + 1 = n) (h : w.ownsRow B 3 1 v n (btV l ++ [.int .i64 (k : Int)])) : w.ownsRow B 3 1 v (l ++ [k]).length (btV (l ++ [k])) := bt_snoc hn h

set_option maxRecDepth 100000 in
set_option maxHeartbeats 8000000 in
theorem spec_l17Live (ops : List Wd) (hc : codeM ops = true) (w : World) (v : Value) (hv : Words w (· < w.heap.size) ops v) :
    Calls Tryd.prog 14 #[v] w fun r w' => ∃ (bs : List Bool) (v' : Value), r = .returned v' ∧ w'.ownsRow w.heap.size 4 1 v' bs.length (boolsV bs) ∧ bs.length = ops.length ∧ (∀ q, bs.getD q false = true ↔ Live ops q) ∧ Below w.heap.size w w' := by
  obtain ⟨i1, hi1, hiz1, his1, hib1⟩ := info_parts btInfo
  obtain ⟨a, cap, rfl⟩ := hv.slice
  obtain ⟨hl1, hl2⟩ := code_len hc
  have HK : Hid (∀ (k : Nat) (hk : k < ops.length), ∃ b off, a = some ⟨b, off, none⟩ ∧ ∀ w', Below w.heap.size w w' → (w'.cell? ⟨b, off + k * 2, none⟩ = some (.int .i64 ops[k].tag) ∧ w'.cell? ⟨b, off + k * 2 + 1, none⟩ = some (.int .i64 ops[k].num))) := fun k hk => by
    obtain ⟨b, off, hS, he, hr⟩ := hv.at k hk
    exact ⟨b, off, by simpa using he, fun w' h => Wd.two (rw_same (h.block b hS) hr)⟩
  have hmk := lv_make ops.length (by omega)
  have hO1 := lv_made w ops.length w.heap.size (Nat.le_refl _) (by omega)
  have hO2 := (hO1.alloc (.cells #[.int .i64 0] 3))
  have hO3 := ow_set hO2 0 (.bool true)
  rw [← lv_bools_set] at hO3
  have hz1 : (w.alloc (.cells (madeCells #[.bool false] ops.length) 4)).heap.size = w.heap.size + 1 := by simp
  have hd0 := (lv_bool_at hO2 (q := 0) (by simp; omega))
  generalize hb0 : (List.replicate ops.length false).getD 0 false = b0 at hd0
  have hT1 : ((w.alloc (.cells (madeCells #[.bool false] ops.length) 4)).alloc (.cells #[.int .i64 0] 3)).ownsRow (w.heap.size + 1) 3 1 (.slice (some ⟨w.heap.size + 1, 0, none⟩) 1 1) 1 [.int .i64 0] := by
    have := lv_one (w.alloc (.cells (madeCells #[.bool false] ops.length) 4)) 0
    rw [hz1] at this
    exact this
  have hT3 := ow_but hT1 (ow_but_set _ w.heap.size 0 (.bool true)) (fun k hk => by cases hk; omega)
  have hB3 : Below w.heap.size w (((w.alloc (.cells (madeCells #[.bool false] ops.length) 4)).alloc (.cells #[.int .i64 0] 3)).setCell ⟨w.heap.size, 0, none⟩ (.bool true)) := ((bt_new w _).trans ((bt_new _ _).mono (by simp))).setCell (Nat.le_refl _) _
  have hl0 : (0 : Int) < (ops.length : Int) := by omega
  obtain ⟨d0, df⟩ := hd0
  clear hb0 hO1 hO2 hT1 hz1 hv
  go_enter Tryd.func14, Tryd.ntmps14
  go_upto_region 3 with fail
  generalize (w.alloc (.cells (madeCells #[.bool false] ops.length) 4)).alloc (.cells #[.int .i64 0] 3) = W2 at *
  go_wp2_with fail
  clear d0 df hl0 hmk
  go_loopg [4, 5] ops.length (fun k v i wr => ∃ (j : Nat) (bs : List Bool) (td : List Nat), j + k = ops.length ∧ i = .int .i64 j ∧ LvSp ops bs td j ∧ wr.ownsRow w.heap.size 4 1 (.slice (some ⟨w.heap.size, 0, none⟩) ops.length ops.length) ops.length (boolsV bs) ∧ wr.ownsRow (w.heap.size + 1) 3 1 v td.length (btV td) ∧ Below w.heap.size w wr)
  case atStart => exact ⟨0, _, [0], by omega, rfl, LvSp.start hl1, hO3, hT3, hB3⟩
  case round =>
    clear hO3 hT3 hB3
    obtain ⟨j, bs, td, hj, rfl, hI, hO, hT, hB⟩ := hrel
    have hfew := hI.few hc
    have hz := hB.size
    have hA := (hO.lt w.heap.size rfl).2
    obtain ⟨ta, tcap, rfl, htc⟩ := lv_at hT
    by_cases hlt : j < td.length
    · have hji : (j : Int) < (td.length : Int) := by omega
      obtain ⟨tg, rfl, hp, htg1, htg2⟩ := htc j hlt
      have hlive := hI.sound td[j] (List.getElem_mem hlt)
      have hpn := live_lt hc hlive
      have hjp : td[j]? = some td[j] := List.getElem?_eq_getElem hlt
      have hnum := fun h => code_num hc hpn h
      have hnxt := fun h => live_next hc hlive h
      have hlv : Hid (∀ q ∈ nextL ops[td[j]] td[j], Live ops q ∧ q < ops.length) := fun q hq => by
        have := Live.next td[j] q hlive ((leads_next hpn).2 hq)
        exact ⟨this, live_lt hc this⟩
      have hstep : Hid (∀ bs2 td2, LvSp ops bs2 td2 j → td2[j]? = some td[j] → (∀ q ∈ nextL ops[td[j]] td[j], q ∈ td2) → LvSp ops bs2 td2 (j + 1)) := fun bs2 td2 h1 h2 h3 => h1.step h2 hpn h3
      obtain ⟨b2, off, rfl, hcell⟩ := HK.out td[j] hpn
      obtain ⟨q0, q1⟩ := hcell wr hB
      generalize td[j] = p at *
      have hpi : (p : Int) < (ops.length : Int) := by omega
      have hnl := nextL_len ops[p] p
      generalize ops[p] = op at *
      have hox : (wr.alloc (opBox op)).heap[wr.heap.size]? = some (opBox op) := heap_alloc_new wr _
      have hB7 : Below (wr.heap.size + 1) (wr.alloc (opBox op)) (wr.alloc (opBox op)) := Below.refl _ _
      have hz7 : (wr.alloc (opBox op)).heap.size = wr.heap.size + 1 := by simp
      have hr7 := bt_new wr (opBox op)
      have hp7 : (wr.alloc (opBox op)).cell? ⟨tg, j, none⟩ = some (.int .i64 (p : Int)) := by rw [hr7.cell (p := ⟨tg, j, none⟩) htg2]; exact hp
      clear hcell
      go_upto_region 9 with fail
      change Code.wp _ _ _ _ ((wr.alloc (opBox op)).alloc (.cells #[] 3))
      generalize wr.alloc (opBox op) = W7 at *
      have hO8 : (W7.alloc (.cells #[] 3)).ownsRow (wr.heap.size + 1) 3 1 (.slice (some ⟨wr.heap.size + 1, 0, none⟩) 0 0) 0 [] := by
        have := World.ownsRow_made (base := wr.heap.size + 1) (size := 1) (e := 3) W7 #[] 0 (by omega) (Nat.zero_le _) rfl
        rw [hz7] at this
        exact this
      have hB8 : Below (wr.heap.size + 1) W7 (W7.alloc (.cells #[] 3)) := hB7.alloc (by omega) _
      have hp8 : (W7.alloc (.cells #[] 3)).cell? ⟨tg, j, none⟩ = some (.int .i64 (p : Int)) := by rw [hB8.cell (p := ⟨tg, j, none⟩) (by dsimp only; omega)]; exact hp7
      obtain ⟨x0, x1⟩ := op_two ((hB8.block wr.heap.size (by omega)).trans hox)
      have hz8 : (W7.alloc (.cells #[] 3)).heap.size = wr.heap.size + 2 := by simp; omega
      generalize W7.alloc (.cells #[] 3) = W8 at *
      have hz8l : wr.heap.size + 2 ≤ W8.heap.size := by omega
      clear hz8
      go_cut [7, 36] from 15 to 84 (fun s7 s36 wc => s36 = .bool (onP op) ∧ wc = W8 ∧ wc.ownsRow (wr.heap.size + 1) 3 1 s7 0 [])
      case first =>
        have hon : Hid (onP op = decide (op.tag ≠ 10 ∧ op.tag ≠ 24)) := rfl
        by_cases k10 : op.tag = 10
        · have t10 : (op.tag != 10) = false := by rw [k10]; rfl
          have HV : Hid (onP op = false) := by show _ = _; rw [hon.out, k10]; rfl
          clear k10 hon
          go_wp2_with fail
          go_meet
          case rel => exact ⟨by rw [HV.out], rfl, hO8⟩
        have t10 : (op.tag != 10) = true := by simpa using k10
        by_cases k24 : op.tag = 24
        · have t24 : (op.tag != 24) = false := by rw [k24]; rfl
          have HV : Hid (onP op = false) := by show _ = _; rw [hon.out, k24]; rfl
          clear k10 k24 hon
          go_wp2_with fail
          go_meet
          case rel => exact ⟨by rw [HV.out], rfl, hO8⟩
        have t24 : (op.tag != 24) = true := by simpa using k24
        have HV : Hid (onP op = true) := decide_eq_true ⟨k10, k24⟩
        clear k10 k24 hon
        go_wp2_with fail
        go_meet
        case rel => exact ⟨by rw [HV.out], rfl, hO8⟩
      case rest =>
        clear hO8
        obtain ⟨rfl, rfl, hO8⟩ := hcut
        go_upto_if 36 with fail
        go_cut [7] from 15 to 84 (fun s7 wc => wc.ownsRow (wr.heap.size + 1) 3 1 s7 (onL op p).length (btV (onL op p)) ∧ Below (wr.heap.size + 1) W7 wc)
        case first =>
          have HNX : Hid (onL op p = if onP op = true then [p + 1] else []) := rfl
          cases ho : onP op
          · have HN2 : Hid (onL op p = []) := by show _ = _; rw [HNX.out, ho]; rfl
            clear hnxt hnum ho HNX hlv hstep hnl
            go_wp2_with fail
            go_meet
            case rel => exact ⟨by rw [HN2.out]; exact hO8, hB8⟩
          · have HN2 : Hid (onL op p = [p + 1]) := by show _ = _; rw [HNX.out, ho]; rfl
            have hn1 := hnxt ho
            have wn : IntKind.i64.wrap ((p : Int) + 1) = (p : Int) + 1 := bt_wr _ (by omega) (by omega)
            clear hnxt hnum ho HNX hlv hstep hnl hO hT
            go_wp2_with (at_builtin; refine wpList_append_own _ rfl _ _ 24 rfl (wr.heap.size + 1) 3 i1 (.int .i64 0) 1 8 Tryd.underlying24 hi1 hiz1 his1 hib1 rfl (by decide) _ _ _ rfl (hO8.alloc _) ⟨wc.heap.size, 0, none⟩ 1 1 [.int .i64 ((p : Int) + 1)] rfl rfl (ow_cells_new wc _ _) (fun u hu => by simp at hu; subst hu; rfl) (by unfold maxLen; omega) (by omega) (by simp; omega) ?_; intro v9 w9 hOw9 hGw9 _; have hBw9 : Below (wr.heap.size + 1) W7 w9 := (hB8.alloc (by omega) _).grown hGw9 (by simp; omega) (fun k hk => (hO8.lt k hk).1))
            go_meet
            case rel => exact ⟨by rw [HN2.out]; simpa [btV] using hOw9, hBw9⟩
        case rest =>
          obtain ⟨hOc, hBc⟩ := hcut
          obtain ⟨x0, x1⟩ := op_two ((hBc.block wr.heap.size (by omega)).trans hox)
          have hzc := hBc.size
          have hon : (onL op p).length ≤ 1 := by unfold onL; split <;> simp
          clear hO8 hB8 hz8l hp8 hnxt
          go_upto_block 2 with fail
          go_cut [7] from 15 to 84 (fun s7 we => we.ownsRow (wr.heap.size + 1) 3 1 s7 (nextL op p).length (btV (nextL op p)) ∧ Below (wr.heap.size + 1) W7 we)
          case first =>
            go_upto_if 47 with fail
            go_cut [47] from 15 to 84 (fun s47 wd => s47 = .bool (hasP op) ∧ wd = wc)
            case first =>
              have hp : Hid (hasP op = decide (op.tag = 4 ∨ op.tag = 5 ∨ op.tag = 9 ∨ op.tag = 10 ∨ op.tag = 16)) := rfl
              clear hlv hstep hnl hO hT hnum
              by_cases k10 : op.tag = 10
              · have HV : Hid (hasP op = true) := by show _ = _; rw [hp.out, k10]; rfl
                have f10 : (op.tag == 10) = true := by rw [k10]; rfl
                clear hp k10
                go_wp2_with fail
                go_meet
                case rel => exact ⟨congrArg Value.bool (f10.trans HV.out.symm), rfl⟩
              have f10 : (op.tag == 10) = false := by simpa using k10
              by_cases k9 : op.tag = 9
              · have HV : Hid (hasP op = true) := by show _ = _; rw [hp.out, k9]; rfl
                have f9 : (op.tag == 9) = true := by rw [k9]; rfl
                clear hp k9
                go_wp2_with fail
                go_meet
                case rel => exact ⟨by rw [HV.out], rfl⟩
              have f9 : (op.tag == 9) = false := by simpa using k9
              by_cases k16 : op.tag = 16
              · have HV : Hid (hasP op = true) := by show _ = _; rw [hp.out, k16]; rfl
                have f16 : (op.tag == 16) = true := by rw [k16]; rfl
                clear hp k16
                go_wp2_with fail
                go_meet
                case rel => exact ⟨by rw [HV.out], rfl⟩
              have f16 : (op.tag == 16) = false := by simpa using k16
              by_cases k4 : op.tag = 4
              · have HV : Hid (hasP op = true) := by show _ = _; rw [hp.out, k4]; rfl
                have f4 : (op.tag == 4) = true := by rw [k4]; rfl
                clear hp k4
                go_wp2_with fail
                go_meet
                case rel => exact ⟨by rw [HV.out], rfl⟩
              have f4 : (op.tag == 4) = false := by simpa using k4
              by_cases k5 : op.tag = 5
              · have HV : Hid (hasP op = true) := by show _ = _; rw [hp.out, k5]; rfl
                have f5 : (op.tag == 5) = true := by rw [k5]; rfl
                clear hp k5
                go_wp2_with fail
                go_meet
                case rel => exact ⟨by rw [HV.out], rfl⟩
              have f5 : (op.tag == 5) = false := by simpa using k5
              have HV : Hid (hasP op = false) := by show _ = _; rw [hp.out]; simp [k10, k9, k16, k4, k5]
              clear hp k10 k9 k16 k4 k5
              go_wp2_with fail
              go_meet
              case rel => exact ⟨by rw [HV.out], rfl⟩
            case rest =>
              obtain ⟨rfl, rfl⟩ := hcut
              go_upto_if 47 with fail
              have HNX : Hid (nextL op p = onL op p ++ (if hasP op = true then [op.num.toNat] else [])) := rfl
              generalize onL op p = L1 at *
              generalize nextL op p = L2 at *
              cases hp : hasP op
              · have HN2 : Hid (L2 = L1) := by show _ = _; rw [HNX.out, hp]; simp
                clear hlv hstep hnl hO hT hnum HNX hp
                go_wp2_with fail
                go_meet
                case rel => exact ⟨by rw [HN2.out]; exact hOc, hBc⟩
              · have HN2 : Hid (L2 = L1 ++ [op.num.toNat]) := by show _ = _; rw [HNX.out, hp]; simp
                obtain ⟨n0, n1⟩ := hnum hp
                have hun : Hid (((op.num.toNat : Nat) : Int) = op.num) := by show _ = _; omega
                clear hlv hstep hnl hO hT hnum HNX hp n0 n1
                go_wp2_with (at_builtin; refine wpList_append_own _ rfl _ _ 24 rfl (wr.heap.size + 1) 3 i1 (.int .i64 0) 1 8 Tryd.underlying24 hi1 hiz1 his1 hib1 rfl (by decide) _ _ _ rfl (hOc.alloc _) ⟨wc.heap.size, 0, none⟩ 1 1 [.int .i64 op.num] rfl rfl (ow_cells_new wc _ _) (fun u hu => by simp at hu; subst hu; rfl) (by unfold maxLen; omega) (by omega) (by simp; omega) ?_; intro v9 w9 hOw9 hGw9 _; have hBw9 : Below (wr.heap.size + 1) W7 w9 := (hBc.alloc (by omega) _).grown hGw9 (by simp; omega) (fun k hk => (hOc.lt k hk).1))
                go_meet
                case rel => exact ⟨by rw [HN2.out]; exact bt_snoc rfl (by rw [hun.out]; exact hOw9), hBw9⟩
          case rest =>
            obtain ⟨hOn, hBn⟩ := hcut
            rename World => We
            have hE : Below wr.heap.size wr We := hr7.trans (hBn.mono (by omega))
            have hEz := hE.size
            have hzn := hBn.size
            have hO' := ow_keep hO hE
            have hT' := ow_keep hT hE
            have hB' := hB.trans (hE.mono hz)
            clear hOc hBc hzc hon hO hT hE hBn hox hp7 htc hp q0 q1 hnum
            generalize nextL op p = L at *
            obtain ⟨la, lcap, rfl, hlc⟩ := lv_at hOn
            have hap : (Value.slice la L.length lcap).ownBlock = none ∨ (Value.slice la L.length lcap).ownBlock ≠ (Value.slice (some ⟨tg, 0, none⟩) td.length tcap).ownBlock := by
              cases hb : (Value.slice la L.length lcap).ownBlock with
              | none => exact Or.inl rfl
              | some k =>
                right
                have := (hOn.lt k hb).1
                intro e
                have e2 : k = tg := Option.some.inj e
                omega
            have hlen3 : td.length ≤ 200 := by omega
            go_wp2_with fail
            go_loopg [4, 8] L.length (fun m v i wq => ∃ (t : Nat) (bs2 : List Bool) (td2 : List Nat), t + m = L.length ∧ i = .int .i64 t ∧ LvSp ops bs2 td2 j ∧ td2[j]? = some p ∧ Hid (∀ q ∈ L.take t, q ∈ td2) ∧ wq.ownsRow w.heap.size 4 1 (.slice (some ⟨w.heap.size, 0, none⟩) ops.length ops.length) ops.length (boolsV bs2) ∧ wq.ownsRow (w.heap.size + 1) 3 1 v td2.length (btV td2) ∧ wq.ownsRow (wr.heap.size + 1) 3 1 (.slice la L.length lcap) L.length (btV L) ∧ ((Value.slice la L.length lcap).ownBlock = none ∨ (Value.slice la L.length lcap).ownBlock ≠ v.ownBlock) ∧ We.heap.size ≤ wq.heap.size ∧ Below w.heap.size w wq)
            case atStart => exact ⟨0, bs, td, by omega, rfl, hI, hjp, fun q hq => by simp at hq, hO', hT', hOn, hap, Nat.le_refl _, hB'⟩
            case round =>
              clear hO' hT' hap hB' hlc hOn hI hfew
              rename World => wq
              obtain ⟨t, bs2, td2, ht, rfl, hI, hjp2, hQ, hO, hT, hL, hap, hzq, hBq⟩ := hrel
              have hfew := hI.few hc
              by_cases hlt2 : t < L.length
              · have hti : (t : Int) < (L.length : Int) := by omega
                obtain ⟨lb, lc, he, hlc⟩ := lv_at hL
                obtain ⟨rfl, rfl⟩ : la = lb ∧ lcap = lc := by simpa using he
                obtain ⟨lg, rfl, hcq, _, _⟩ := hlc t hlt2
                obtain ⟨hlq, hqn⟩ := hlv.out L[t] (List.getElem_mem hlt2)
                have htk : L.take (t + 1) = L.take t ++ [L[t]] := List.take_succ_eq_append_getElem hlt2
                have hmq := hI.mem L[t]
                have hcome := hI.come hlq hqn
                have HQ2 : Hid (∀ td3 : List Nat, (∀ q ∈ L.take t, q ∈ td3) → L[t] ∈ td3 → ∀ q ∈ L.take (t + 1), q ∈ td3) := fun td3 h1 h2 q hq => by
                  rw [htk] at hq
                  rcases List.mem_append.1 hq with hq | hq
                  · exact h1 q hq
                  · obtain rfl : q = L[t] := by simpa using hq
                    exact h2
                clear htk hlq hlc he
                generalize L[t] = q at *
                have hqi : (q : Int) < (ops.length : Int) := by omega
                obtain ⟨d0, df⟩ := lv_bool_at hO (q := q) (by rw [hI.len]; exact hqn)
                cases hb : bs2.getD q false
                · rw [hb] at d0
                  have hI2 := hcome hb
                  have hO2 := ow_set hO q (.bool true)
                  rw [← lv_bools_set] at hO2
                  have hg := ow_but_set wq w.heap.size q (.bool true)
                  have hT2 := ow_but hT hg (fun k hk => by cases hk; omega)
                  have hL2 := ow_but hL hg (fun k hk => by cases hk; omega)
                  have hB2 : Below w.heap.size w (wq.setCell ⟨w.heap.size, q, none⟩ (.bool true)) := hBq.setCell (Nat.le_refl _) _
                  have hz2 : (wq.setCell ⟨w.heap.size, q, none⟩ (.bool true)).heap.size = wq.heap.size := by simp
                  have hcq2 : (wq.setCell ⟨w.heap.size, q, none⟩ (.bool true)).cell? ⟨lg, t, none⟩ = some (.int .i64 (q : Int)) := by
                    have hlg := (hL.lt lg rfl)
                    rw [World.cell?_of_block (hg.block lg hlg.2 (by simp; omega))]
                    exact hcq
                  clear hcome hmq hg hO hT hL hBq hb hI
                  go_upto_region 23 with fail
                  generalize wq.setCell ⟨w.heap.size, q, none⟩ (.bool true) = W9 at *
                  have hz9l : wq.heap.size ≤ W9.heap.size := by omega
                  clear hz2 d0 df hcq
                  go_wp2_with (at_builtin; refine wpList_append_own_at _ rfl _ _ 24 rfl (w.heap.size + 1) 3 i1 (.int .i64 0) 1 8 Tryd.underlying24 hi1 hiz1 his1 hib1 rfl (by decide) _ _ _ rfl (hT2.alloc _) ⟨W9.heap.size, 0, none⟩ 1 1 [.int .i64 (q : Int)] rfl rfl (ow_cells_new W9 _ _) (fun u hu => by simp at hu; subst hu; rfl) (by unfold maxLen; omega) (by omega) (by simp; omega) ?_; intro v10 w10 hO10 hG10 _ hv10)
                  go_roundg (L.length - (t + 1))
                  case measure => omega
                  case rel =>
                    have hOA : w10.ownsRow w.heap.size 4 1 (.slice (some ⟨w.heap.size, 0, none⟩) ops.length ops.length) ops.length (boolsV (bs2.set q true)) := (hO2.alloc _).kept hG10 (Or.inr (fun e => by
                      have := (hT2.lt w.heap.size e.symm).1
                      omega))
                    have hLA : w10.ownsRow (wr.heap.size + 1) 3 1 (.slice (some ⟨lg, 0, none⟩) L.length lcap) L.length (btV L) := (hL2.alloc _).kept hG10 hap
                    refine ⟨t + 1, bs2.set q true, td2 ++ [q], by omega, by go_num, hI2, ?_, HQ2.out _ (fun r hr => List.mem_append_left _ (hQ.out r hr)) (List.mem_append_right _ (List.mem_singleton.2 rfl)), hOA, bt_snoc rfl hO10, hLA, ?_, ?_, ?_⟩
                    · rw [List.getElem?_append_left (List.getElem?_eq_some_iff.1 hjp2).1]
                      exact hjp2
                    · right
                      rcases hap with h | h
                      · cases h
                      · rcases hv10 with e | e
                        · rw [e]; exact h
                        · rw [e]
                          intro e2
                          have e3 : lg = (W9.alloc (.cells #[.int .i64 (q : Int)] 3)).heap.size := Option.some.inj e2
                          have := (hL2.lt lg rfl).2
                          simp at e3
                          omega
                    · have := hG10.size
                      simp at this
                      omega
                    · exact (hB2.alloc hB2.size _).grown hG10 (by have := hB2.size; simp; omega) (fun k hk => by have := (hT2.lt k hk).1; omega)
                · rw [hb] at d0
                  have hin := hmq.1 hb
                  clear hcome hmq hb
                  go_wp2_with fail
                  go_roundg (L.length - (t + 1))
                  case measure => omega
                  case rel => exact ⟨t + 1, bs2, td2, by omega, by go_num, hI, hjp2, HQ2.out _ hQ.out hin, hO, hT, hL, hap, hzq, hBq⟩
              · obtain rfl : t = L.length := by omega
                have hti : ¬ (L.length : Int) < (L.length : Int) := by omega
                have hj2 := (List.getElem?_eq_some_iff.1 hjp2).1
                have hst := hstep.out bs2 td2 hI hjp2 (fun q hq => hQ.out q (by rw [List.take_length]; exact hq))
                clear hstep hQ
                go_wp2_with fail
                go_roundg (ops.length - (j + 1))
                case measure => omega
                case rel => exact ⟨j + 1, bs2, td2, by omega, by go_num, hst, hO, hT, hBq⟩
    · obtain rfl : j = td.length := by have := hI.le; omega
      have hji : ¬ (td.length : Int) < (td.length : Int) := by omega
      have hlen := hI.len
      have hall := hI.all
      clear htc
      go_wp2_with fail
      go_ret
      exact ⟨bs, _, rfl, by rw [hlen]; exact hO, hlen, hall, hB⟩
end Go.Proofs.YtlkbgmgnjkkfgaaDoor

