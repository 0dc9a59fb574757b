/-
  SlimLive: both sides, whole.
  The law's own szOpS, toOpS, eqOpS, and toOp, eqOp: a row of ops (two numbers each, as a word).
-/
import Derived.Test.YtlkbgmgnjkkfgaaDoorLvSpec
import Derived.Test.YtlkbgmgnjkkfgaaDoorCkOk
import Derived.Test.YtlkbgmgnjkkfgaaDoorLvAll0
import Derived.Test.YtlkbgmgnjkkfgaaDoorRows
import Derived.WalkKit
import Derived.WalkSpells
import Derived.WalkLawsBesides
import Derived.RowKit3
import Derived.Deep.RegionWith
namespace Go.Proofs.YtlkbgmgnjkkfgaaDoor
open Go.RowKit

theorem lv_next {w w2 w3 : World} (h1 : Below w.heap.size w w2) (h2 : Below w2.heap.size w2 w3) : Below w.heap.size w w3 := h1.trans (h2.mono h1.size)
/-- How a function ends that answers places. -/
def LiveR (w w' : World) (l : List Nat) (r : Ending) : Prop := ∃ v, r = .returned v ∧ w'.ownsRow w.heap.size 3 1 v l.length (natsV l) ∧ Below w.heap.size w w'
/-- What SlimLive answers. -/
noncomputable def liveA (ops : List Wd) : List Nat := if codeM ops = true then liveL ops else []
theorem liveA_len (ops : List Wd) : (liveA ops).length ≤ 1000 := by
  unfold liveA
  split
  · rename_i h
    have := liveL_len ops
    have := (code_len h).2
    omega
  · simp

set_option maxRecDepth 100000 in
set_option maxHeartbeats 1000000 in
theorem impl_SlimLive (ops : List Wd) (hn : ops.length ≤ 1048576) (w : World) (v : Value) (hv : Words w (· < w.heap.size) ops v) (hT : BitTab w) :
    Calls Tryd.prog 7 #[v] w fun r w' => LiveR w w' (liveA ops) r := by
  obtain ⟨a, cap, rfl⟩ := hv.slice
  have hk := impl_CodeOk ops hn w _ hv
  cases hc : codeM ops
  · have e : liveA ops = [] := by unfold liveA; rw [hc]; rfl
    rw [e]
    rw [hc] at hk
    clear hc e
    go_enter Tryd.func7, Tryd.ntmps7
    go_wp2_with (go_at_call 16; refine hk.mono ?_; rintro r w2 ⟨rfl, hb2⟩)
    go_ret
    exact ⟨_, rfl, World.ownsRow_nil _ _ _ _, hb2⟩
  · have e : liveA ops = liveL ops := by unfold liveA; rw [hc]; rfl
    rw [e]
    rw [hc] at hk
    have hL := fun w' (hb : Below w.heap.size w w') => impl_liveOf ops hc w' _ (hv.keep hb hb.size) (hT.keep hb)
    have KT : Hid (∀ w', Below w.heap.size w w' → BitTab w') := fun w' h => hT.keep h
    clear hc e hT
    generalize liveL ops = LL at *
    go_enter Tryd.func7, Tryd.ntmps7
    go_upto_region 4 with (first
      | (go_at_call 16; refine hk.mono ?_; rintro r w2 ⟨rfl, hb2⟩)
      | (go_at_call 17; refine (hL _ hb2).mono ?_; rintro r w3 ⟨m, rfl, hm, hmo, hb3⟩; have hB3 := lv_next hb2 hb3))
    have hM : MkAt (w3.alloc (mkBox m)) w3.heap.size m := heap_alloc_new w3 _
    have hB4 : Below w.heap.size w (w3.alloc (mkBox m)) := hB3.alloc hB3.size _
    have hP := impl_places m hmo _ _ hM (KT.out _ hB4)
    rw [hm] at hP
    go_wp2_with (go_at_call 18; refine hP.mono ?_; rintro r w5 ⟨v5, rfl, hO5, hb5⟩)
    go_ret
    exact ⟨_, rfl, ow_base hO5 hB4.size, lv_next hB4 hb5⟩

set_option maxRecDepth 100000 in
set_option maxHeartbeats 2000000 in
theorem spec_SlimLive (ops : List Wd) (hn : ops.length ≤ 1048576) (v : Value) (w : World) (hv : Words w (· < w.heap.size) ops v) :
    Calls Tryd.prog 5 #[v] w fun r w' => LiveR w w' (liveA ops) r := by
  obtain ⟨i1, hi1, hiz1, his1, hib1⟩ := info_parts btInfo
  obtain ⟨a, cap, rfl⟩ := hv.slice
  have hk := spec_l6Ok ops hn w _ hv
  cases hc : codeM ops
  · have e : liveA ops = [] := by unfold liveA; rw [hc]; rfl
    rw [e]
    rw [hc] at hk
    clear hc e
    go_enter Tryd.func5, Tryd.ntmps5
    go_wp2_with (go_at_call 13; refine hk.mono ?_; rintro r w2 ⟨rfl, hb2⟩)
    go_ret
    exact ⟨_, rfl, World.ownsRow_nil _ _ _ _, hb2⟩
  have e : liveA ops = liveL ops := by unfold liveA; rw [hc]; rfl
  rw [e]
  rw [hc] at hk
  have hl2 := (code_len hc).2
  have hL := fun w' (hb : Below w.heap.size w w') => spec_l17Live ops hc w' _ (hv.keep hb hb.size)
  clear hc e
  go_enter Tryd.func5, Tryd.ntmps5
  go_upto_region 4 with (first
    | (go_at_call 13; refine hk.mono ?_; rintro r w2 ⟨rfl, hb2⟩)
    | (go_at_call 14; refine (hL _ hb2).mono ?_; rintro r w4 ⟨bs, v4, rfl, hO4, hbl, hbm, hb4⟩))
  have hb14 := lv_next hb2 hb4
  have hML : Hid (takenTo bs bs.length = liveL ops) := bools_live hbl hbm
  obtain ⟨ia, icap, rfl, hic⟩ : ∃ ia icap, v4 = .slice ia bs.length icap ∧ ∀ j (hj : j < bs.length), ∃ g, ia = some ⟨g, 0, none⟩ ∧ g < w4.heap.size ∧ w4.cell? ⟨g, j, none⟩ = some (.bool bs[j]) := by
    have hx := hO4.1
    have hlt := hO4.lt
    rcases hO4.2 with ⟨rfl, e⟩ | ⟨g, cap, cur, rfl, hg, hh, _⟩
    · exact ⟨none, 0, by rw [e], fun j hj => by omega⟩
    · refine ⟨_, cap, rfl, fun j hj => ⟨g, rfl, (Array.getElem?_eq_some_iff.1 hh).1, ?_⟩⟩
      rw [(ow_cell hO4 j (by rw [boolsV_length]; exact hj)).1]
      simp [boolsV]
  have hbl2 : bs.length ≤ 200 := by omega
  clear hO4 hb2 hb4 hk hL hbm hbl
  have hOw : (w4.alloc (.cells #[] 3)).ownsRow w4.heap.size 3 1 (.slice (some ⟨w4.heap.size, 0, none⟩) 0 0) 0 [] := World.ownsRow_made w4 #[] 0 (Nat.le_refl _) (Nat.zero_le _) rfl
  go_wp2_with fail
  go_loopg [4, 5] bs.length (fun k v i wr => ∃ j : Nat, j + k = bs.length ∧ i = .int .i64 j ∧ wr.ownsRow w4.heap.size 3 1 v (takenTo bs j).length (btV (takenTo bs j)) ∧ Below w4.heap.size w4 wr)
  case atStart => exact ⟨0, by omega, rfl, hOw, bt_new w4 _⟩
  case round =>
    obtain ⟨j, hj, rfl, hO, hB⟩ := hrel
    have hz := hB.size
    have htl := takenTo_le bs j
    by_cases hlt : j < bs.length
    · obtain ⟨mb, rfl, hml, hc⟩ := hic j hlt
      have hc' : wr.cell? ⟨mb, j, none⟩ = some (.bool bs[j]) := by rw [hB.cell (p := ⟨mb, j, none⟩) hml]; exact hc
      have hji : (j : Int) < (bs.length : Int) := by omega
      have hnx := takenTo_next bs j hlt
      cases hb : bs[j]
      · rw [hb] at hc' hnx
        have HN : Hid (takenTo bs (j + 1) = takenTo bs j) := by show _ = _; rw [hnx]; simp
        clear hnx hc hb
        go_wp2_with fail
        go_roundg (bs.length - (j + 1))
        case measure => omega
        case rel => exact ⟨j + 1, by omega, by go_num, by rw [HN.out]; exact hO, hB⟩
      · rw [hb] at hc' hnx
        have HN : Hid (takenTo bs (j + 1) = takenTo bs j ++ [j]) := by show _ = _; rw [hnx]; simp
        clear hnx hc hb
        go_wp2_with (at_builtin; refine wpList_append_own _ rfl _ _ 24 rfl w4.heap.size 3 i1 (.int .i64 0) 1 8 Tryd.underlying24 hi1 hiz1 his1 hib1 rfl (by decide) _ _ _ rfl (hO.alloc _) ⟨wr.heap.size, 0, none⟩ 1 1 [.int .i64 (j : Int)] rfl rfl (ow_cells_new wr _ _) (fun u hu => by simp at hu; subst hu; rfl) (by unfold maxLen; omega) (by omega) (by simp; omega) ?_; intro v8 w8 hO8 hG8 _)
        go_roundg (bs.length - (j + 1))
        case measure => omega
        case rel => exact ⟨j + 1, by omega, by go_num, by rw [HN.out]; exact bt_snoc rfl hO8, (hB.alloc hz _).grown hG8 (by simp; omega) (fun k hk => (hO.lt k hk).1)⟩
    · obtain rfl : j = bs.length := by omega
      have hji : ¬ (bs.length : Int) < (bs.length : Int) := by omega
      clear hic
      go_wp2_with fail
      go_ret
      exact ⟨_, rfl, by rw [← hML.out]; exact ow_base hO hb14.size, lv_next hb14 hB⟩
end Go.Proofs.YtlkbgmgnjkkfgaaDoor

namespace Go.Proofs.YtlkbgmgnjkkfgaaDoor
open Go.RowKit

/-- How many are left: below 0, or no more than there were. -/
def LeftO (n l : Nat) (r : Ending) : Prop := ∃ m : Int, r = .returned (.int .i64 m) ∧ m ≤ n ∧ (0 ≤ m → m = (n : Int) - l)

set_option maxHeartbeats 400000 in
theorem law_toOp (t n : Int) (w : World) : Calls Tryd.prog 15 #[.agg #[.int .i64 t, .int .i64 n]] w fun r w' => r = .returned (.agg #[.int .i64 t, .int .i64 n]) ∧ Below w.heap.size w w' := by
  go_enter Tryd.func15, Tryd.ntmps15
  go_wp2_with fail
  refine bodyPost_ret (v := .agg #[.int .i64 t, .int .i64 n]) (by simp [results, Tryd.results15, go_sem]) rfl ⟨rfl, ?_⟩
  repeat (refine Below.setCell ?_ (by dsimp only; omega) _)
  exact (((Below.refl _ _).alloc (Nat.le_refl _) _).alloc (by simp) _).alloc (by simp; omega) _

set_option maxHeartbeats 400000 in
theorem law_eqOp (t n : Int) (w : World) : Calls Tryd.prog 19 #[.agg #[.int .i64 t, .int .i64 n], .agg #[.int .i64 t, .int .i64 n]] w fun r w' => r = .returned (.bool true) ∧ Below w.heap.size w w' := by
  go_enter Tryd.func19, Tryd.ntmps19
  go_wp2_with fail
  go_ret
  exact ⟨rfl, ((Below.refl _ _).alloc (Nat.le_refl _) _).alloc (by simp) _⟩

set_option maxHeartbeats 400000 in
theorem law_szOpL (cs : List Wd) (hlen : cs.length ≤ maxLen) (w : World) (a : Option Addr) (cap n : Nat) (hn : n ≤ 1048576) :
    Calls Tryd.prog 4 #[.slice a cs.length cap, .int .i64 n] w fun r w' => LeftO n cs.length r ∧ w' = w := by
  unfold maxLen at hlen
  by_cases hneg : (n : Int) - (cs.length : Int) < 0
  · go_enter Tryd.func4, Tryd.ntmps4
    go_wp2_with fail
    go_ret
    exact ⟨⟨_, rfl, by omega, by omega⟩, rfl⟩
  · go_enter Tryd.func4, Tryd.ntmps4
    go_wp2_with fail
    go_ret
    exact ⟨⟨_, rfl, by omega, by omega⟩, rfl⟩

theorem make_ops (n : Nat) (hn : n ≤ 1048576) (w : World) : (Instr.makeSlice 26 (.int .i64 (n : Int)) (.int .i64 (n : Int))).run Tryd.prog w =
    .ok (.slice (some ⟨w.heap.size, 0, none⟩) n n) (w.alloc (.cells (madeCells #[.int .i64 0, .int .i64 0] (n * 2)) 37)) := by
  have hinfo : (Tryd.prog.info? 37).map (fun i => (i.zero, i.size, i.bytes)) = some (some (.agg #[.int .i64 0, .int .i64 0]), 2, 16) := by kernel_rfl
  obtain ⟨i, hi, hz⟩ := Option.map_eq_some_iff.1 hinfo
  simp only [Prod.mk.injEq] at hz
  obtain ⟨hz, hs, hb⟩ := hz
  have hr := run_make (P := Tryd.prog) w 26 37 i _ Tryd.underlying26 hi hz .i64 .i64 n n (by omega) (Int.le_refl _) (by rw [hb]; omega) (by omega)
  simpa [hs, Value.cells] using hr
theorem opSize : (Tryd.prog.info? 37).map (·.size) = some 2 := by kernel_rfl
theorem Wd.len2o (c : Wd) : c.cells.length = 2 := rfl

set_option maxHeartbeats 400000 in
theorem law_toOpS (cs : List Wd) (hlen : cs.length ≤ 1048576) (w : World) (v : Value) (hv : Words w (· < w.heap.size) cs v) :
    Calls Tryd.prog 6 #[v] w fun r w' => ∃ v', r = .returned v' ∧ Words w' (fun b => w.heap.size ≤ b ∧ b < w'.heap.size) cs v' ∧ Below w.heap.size w w' := by
  obtain ⟨a, cap, rfl⟩ := hv.slice
  have hmk := make_ops cs.length hlen
  go_enter Tryd.func6, Tryd.ntmps6
  go_wp2_with fail
  go_loopw [4] (fun i wr => ∃ (k : Nat), k ≤ cs.length ∧ i = .int .i64 k ∧ CopyTo 2 Wd.cells wr w.heap.size cs k ∧ wr.there w.heap.size 0 (cs.length * 2) ∧ w.heap.size < wr.heap.size ∧ Below w.heap.size w wr) (fun i _ => cs.length - (intOf i).toNat)
  case atStart => exact ⟨0, by omega, rfl, CopyTo.zero, rw_there_made _ _ _ _, by simp, (Below.refl _ _).alloc (Nat.le_refl _) _⟩
  case round =>
    obtain ⟨k, hk, rfl, hdone, hth, hnb, hb⟩ := hrel
    by_cases hlt : k < cs.length
    · obtain ⟨b, off, hS, rfl, hr⟩ := hv.at k hlt
      obtain ⟨c0, c1⟩ := Wd.two (rw_same (hb.block b hS) hr)
      clear hr
      have HT : ∀ w2, Below wr.heap.size wr w2 → w2.there w.heap.size (k * 2) 2 := fun w2 hb2 => rw_there_part (rw_there_same (hb2.block _ hnb) hth) (by omega)
      go_wp2_with (first | (go_at_call 15; refine (law_toOp cs[k].tag cs[k].num _).mono ?_; rintro e w2 ⟨rfl, hb2⟩) | (refine wpList_store_mid rfl 37 _ _ rfl w.heap.size (k * 2) #[.int .i64 cs[k].tag, .int .i64 cs[k].num] ?hx ?hy ?ht ?hi ?h1 ?_))
      case hx => rfl
      case hy => rfl
      case ht => exact HT w2 hb2
      case hi => exact opSize
      case h1 => simp [Value.oneCell']
      go_roundw
      case rel =>
        refine ⟨k + 1, by omega, by go_num, CopyTo.next hdone Wd.len2o hlt (hb2.block _ hnb) (HT w2 hb2), World.there_setCells (rw_there_same (hb2.block _ hnb) hth) _ _ _, ?_, rw_below_setCells (Nat.le_refl _) _ _ _ (hb.trans (hb2.mono hb.size))⟩
        rw [rw_size_setCells]; have := hb2.size; omega
      case measure => simp [intOf]; omega
    · obtain rfl : k = cs.length := by omega
      go_wp2_with fail
      go_ret
      exact ⟨_, rfl, hdone.all ⟨Nat.le_refl _, hnb⟩ _, hb⟩

set_option maxHeartbeats 400000 in
theorem law_eqOpS (cs : List Wd) (hlen : cs.length ≤ 1048576) (w : World) (v1 v2 : Value) (hv1 : Words w (· < w.heap.size) cs v1) (hv2 : Words w (· < w.heap.size) cs v2) :
    Calls Tryd.prog 9 #[v1, v2] w fun r w' => r = .returned (.bool true) ∧ Below w.heap.size w w' := by
  obtain ⟨a1, cap1, rfl⟩ := hv1.slice
  obtain ⟨a2, cap2, rfl⟩ := hv2.slice
  go_enter Tryd.func9, Tryd.ntmps9
  go_wp2_with fail
  go_loopw [5] (fun i wr => ∃ (k : Nat), k ≤ cs.length ∧ i = .int .i64 k ∧ Below w.heap.size w wr) (fun i _ => cs.length - (intOf i).toNat)
  case atStart => exact ⟨0, by omega, rfl, Below.refl _ _⟩
  case round =>
    obtain ⟨k, hk, rfl, hb⟩ := hrel
    by_cases hlt : k < cs.length
    · obtain ⟨b1, off1, hS1, rfl, hr1⟩ := hv1.at k hlt
      obtain ⟨b2, off2, hS2, rfl, hr2⟩ := hv2.at k hlt
      obtain ⟨c0, c1⟩ := Wd.two (rw_same (hb.block b1 hS1) hr1)
      obtain ⟨d0, d1⟩ := Wd.two (rw_same (hb.block b2 hS2) hr2)
      clear hr1 hr2
      have hi : (k : Int) < (cs.length : Int) := by omega
      go_wp2_with fail
      go_region_with (go_at_call 19; refine (law_eqOp cs[k].tag cs[k].num _).mono ?_; rintro r w2 ⟨rfl, hb2⟩)
      all_goals
        go_wp2_with fail
        go_roundw
        case rel => exact ⟨k + 1, by omega, by go_num, hb.drew.trans (hb2.mono hb.size)⟩
        case measure => simp [intOf]; omega
    · go_wp2_with fail
      go_ret
      exact ⟨rfl, hb⟩
end Go.Proofs.YtlkbgmgnjkkfgaaDoor

