/-
  Cells that lead back to themselves: the program's SameRings, whole.
-/
import Derived.Test.YtndpioniobhbmaaRgMath
import Derived.Test.YtndpioniobhbmaaHrImpl
import Derived.Test.YtndpioniobhbmaaMkInt
import Derived.Deep.Cut
import Derived.Test.YtndpioniobhbmaaReMath
namespace Go.Proofs.Ytndpioniobhbmaa
open Go.RowKit

set_option maxHeartbeats 1000000 in
/-- The library's search. -/
theorem rg_Index (l : List Nat) (hl : l.length ≤ 1000000) (k : Nat) (v : Value) (w : World) (lo : Nat) (hO : w.ownsRow lo 3 1 v l.length (natsV l)) :
    Calls Try.prog 23 #[v, .int .i64 (k : Int)] w fun r w' => ∃ x : Int, r = .returned (.int .i64 x) ∧ (0 ≤ x ↔ k ∈ l) ∧ w' = w := by
  obtain ⟨a, cap, rfl, hc⟩ := own_at hO
  have hin : ∀ j (hj : j < l.length), ∃ g, a = some ⟨g, 0, none⟩ ∧ w.cell? ⟨g, j, none⟩ = some (.int .i64 ((l[j] : Nat) : Int)) := fun j hj => by
    obtain ⟨g, hg, h⟩ := hc j (by rw [natsV_length]; exact hj)
    refine ⟨g, hg, ?_⟩
    rw [h]
    simp [natsV]
  clear hc hO
  go_enter Try.func23, Try.ntmps23
  go_wp2_with fail
  go_loopg [8] l.length (fun m i wr => ∃ j : Nat, j + m = l.length ∧ i = .int .i64 j ∧ wr = w ∧ k ∉ l.take j)
  case atStart => exact ⟨0, by omega, rfl, rfl, by simp⟩
  case round =>
    obtain ⟨j, hj, rfl, rfl, hn⟩ := hrel
    by_cases hlt : j < l.length
    · obtain ⟨g, rfl, hcj⟩ := hin j hlt
      have hji : (j : Int) < (l.length : Int) := by omega
      by_cases hx : k = l[j]
      · have hm : k ∈ l := hx ▸ List.getElem_mem hlt
        rw [← hx] at hcj
        clear hin hx hn
        go_wp2_with fail
        go_ret
        exact ⟨(j : Int), rfl, ⟨fun _ => hm, fun _ => by omega⟩, rfl⟩
      · have hk : k ∉ l.take (j + 1) := by
          rw [List.take_succ_eq_append_getElem hlt]
          simp only [List.mem_append, List.mem_singleton, not_or]
          exact ⟨hn, hx⟩
        have hxe : ((k : Int) == ((l[j] : Nat) : Int)) = false := by
          rw [beq_eq_false_iff_ne]
          omega
        generalize l[j] = x at *
        clear hin hx hn
        go_wp2_with fail
        go_roundg (l.length - (j + 1))
        case measure => omega
        case rel => exact ⟨j + 1, by omega, by go_num, rfl, hk⟩
    · obtain rfl : j = l.length := by omega
      have hji : ¬ (l.length : Int) < (l.length : Int) := by omega
      rw [List.take_length] at hn
      have HN : Hid (k ∉ l) := hn
      clear hin hn
      go_wp2_with fail
      go_ret
      exact ⟨-1, rfl, ⟨fun h => absurd h (by decide), fun h => absurd h HN.out⟩, rfl⟩

theorem rg_Contains (l : List Nat) (hl : l.length ≤ 1000000) (k : Nat) (v : Value) (w : World) (lo : Nat) (hO : w.ownsRow lo 3 1 v l.length (natsV l)) :
    Calls Try.prog 13 #[v, .int .i64 (k : Int)] w fun r w' => r = .returned (.bool (l.contains k)) ∧ w' = w := by
  have hI := rg_Index l hl k v w lo hO
  by_cases hm : k ∈ l
  · have e : l.contains k = true := by simpa using hm
    rw [e]
    go_enter Try.func13, Try.ntmps13
    have HM : Hid (k ∈ l) := hm
    clear hm
    go_wp2_with (go_at_call 23; refine hI.mono ?_; rintro r w2 ⟨x, rfl, hx, hw⟩; obtain rfl := hw; have h0 : (0 : Int) ≤ x := hx.2 HM.out; clear hx)
    go_ret
    exact ⟨rfl, rfl⟩
  · have e : l.contains k = false := by simpa using hm
    rw [e]
    go_enter Try.func13, Try.ntmps13
    go_wp2_with (go_at_call 23; refine hI.mono ?_; rintro r w2 ⟨x, rfl, hx, hw⟩; obtain rfl := hw; have h0 : ¬ (0 : Int) ≤ x := fun h => hm (hx.1 h); clear hx)
    go_ret
    exact ⟨by simp [h0], rfl⟩

/-- For each cell, whether the program finds that it leads back to itself. -/
def backQ (cs : List Ce) (k : Nat) : Bool := match cs[k]? with | some c => (reachM cs [c.a, c.b]).contains k | none => false
def backB (cs : List Ce) : List Bool := (List.range cs.length).map (backQ cs)
theorem backB_length (cs : List Ce) : (backB cs).length = cs.length := by simp [backB]
theorem backB_get (cs : List Ce) (k : Nat) (h : k < (backB cs).length) : (backB cs)[k] = backQ cs k := by simp [backB]
theorem back_at {cs : List Ce} {k : Nat} (hk : k < cs.length) : backQ cs k = (reachM cs [cs[k].a, cs[k].b]).contains k := by
  rw [backQ]; simp [hk]
theorem words_two {cs : List Ce} (h : heapM cs = true) {c : Ce} (hc : c ∈ cs) : wordsM cs.length [c.a, c.b] = true := by
  rw [heapM, Bool.and_eq_true, List.all_eq_true] at h
  have := of_decide_eq_true (h.2 c hc)
  unfold cellQ at this
  simp only [wordsM, List.all_cons, List.all_nil, Bool.and_true, Bool.and_eq_true, decide_eq_true_eq]
  exact ⟨this.1, this.2.1⟩
theorem back_rings (cs : List Ce) : takenM (backB cs) = ringsM cs := by
  rw [ringsM]
  split
  · rename_i h
    congr 1
    unfold backB ringsB
    apply List.map_congr_left
    intro k hk
    rw [List.mem_range] at hk
    rw [back_at hk, ring_at hk, reachM, if_pos ⟨h, words_two h (List.getElem_mem hk)⟩, Bool.eq_iff_iff]
    simp only [List.contains_iff_mem]
    exact taken_mem
  · rename_i h
    apply List.eq_nil_iff_forall_not_mem.2
    intro k hk
    have hlt := taken_lt hk
    rw [taken_mem, List.getD_eq_getElem?_getD, List.getElem?_eq_getElem hlt, Option.getD_some, backB_get] at hk
    rw [backB_length] at hlt
    rw [back_at hlt, reachM, if_neg (fun e => h e.1)] at hk
    simp at hk
theorem reach_len (cs : List Ce) (c : Ce) (_ : c ∈ cs) : (reachM cs [c.a, c.b]).length ≤ 1000000 := by
  rw [reachM]
  split
  · rename_i h
    obtain ⟨h120, hrefs⟩ := heap_refs h.1
    have hml := loop_mv cs hrefs (cs.length + 1) _ 0 0 (Inv.words hrefs [c.a, c.b] _ (inv0 cs []) (words_refs h.2))
    have e : (inM (copyS cs [] [c.a, c.b])).length = cs.length := by rw [inM_length]; exact hml
    have := takenTo_le (inM (copyS cs [] [c.a, c.b])) (inM (copyS cs [] [c.a, c.b])).length
    rw [takenM]
    omega
  · simp

/-- The box of the loop's cell. -/
def rgBox (c : Ce) : Obj := .cells #[.int .i64 c.kind, .int .i64 c.num, .int .i64 c.a.tag, .int .i64 c.a.num, .int .i64 c.b.tag, .int .i64 c.b.num] 33
def RgS (w : World) (g : Nat) (c : Ce) : Prop := w.cell? ⟨g, 2, none⟩ = some (.int .i64 c.a.tag) ∧ w.cell? ⟨g, 3, none⟩ = some (.int .i64 c.a.num) ∧ w.cell? ⟨g, 4, none⟩ = some (.int .i64 c.b.tag) ∧ w.cell? ⟨g, 5, none⟩ = some (.int .i64 c.b.num)
theorem rg_cells {w : World} {g : Nat} {c : Ce} (h : w.heap[g]? = some (rgBox c)) : RgS w g c :=
  ⟨cell_of_row _ _ _ _ _ _ h, cell_of_row _ _ _ _ _ _ h, cell_of_row _ _ _ _ _ _ h, cell_of_row _ _ _ _ _ _ h⟩

set_option maxRecDepth 100000 in
set_option maxHeartbeats 2000000 in
theorem impl_SameRings (cs : List Ce) (hn : cs.length ≤ 1048576) (v : Value) (w : World) (hv : Cells w (· < w.heap.size) cs v) :
    Calls Try.prog 5 #[v] w fun r w' => ReachR w w' (ringsM cs) r := by
  obtain ⟨i1, hi1, hiz1, his1, hib1⟩ := info_parts inInfo
  obtain ⟨a, cap, rfl⟩ := hv.slice
  rw [← back_rings]
  have hR := fun (k : Nat) (hk : k < cs.length) w' (hv' : Cells w' (· < w'.heap.size) cs (.slice a cs.length cap)) v2 (h2 : Words w' (· < w'.heap.size) [cs[k].a, cs[k].b] v2) => impl_HeapReach cs hn [cs[k].a, cs[k].b] (by simp) (.slice a cs.length cap) v2 w' hv' h2
  have hbl := backB_length cs
  have hbg := backB_get cs
  generalize backB cs = bs at *
  have KC : Hid (∀ w', Below w.heap.size w w' → Cells w' (· < w'.heap.size) cs (.slice a cs.length cap)) := fun w' h => hv.keep h h.size
  have HK : Hid (∀ (k : Nat) (hk : k < cs.length), ∃ b off, a = some ⟨b, off, none⟩ ∧ ∀ w', Below w.heap.size w w' → (w'.cell? ⟨b, off + k * 6, none⟩ = some (.int .i64 cs[k].kind) ∧ w'.cell? ⟨b, off + k * 6 + 1, none⟩ = some (.int .i64 cs[k].num) ∧ w'.cell? ⟨b, off + k * 6 + 2, none⟩ = some (.int .i64 cs[k].a.tag) ∧ w'.cell? ⟨b, off + k * 6 + 3, none⟩ = some (.int .i64 cs[k].a.num) ∧ w'.cell? ⟨b, off + k * 6 + 4, none⟩ = some (.int .i64 cs[k].b.tag) ∧ w'.cell? ⟨b, off + k * 6 + 5, none⟩ = some (.int .i64 cs[k].b.num))) := fun k hk => by
    obtain ⟨b, off, hS, he, hr⟩ := hv.at k hk
    refine ⟨b, off, by simpa using he, fun w' h => Ce.six (rw_same (h.block b hS) hr)⟩
  clear hv
  go_enter Try.func5, Try.ntmps5
  go_wp2_with fail
  go_loopg [3, 8] cs.length (fun k v i wr => ∃ j : Nat, j + k = cs.length ∧ i = .int .i64 j ∧ wr.ownsRow w.heap.size 3 1 v (takenTo bs j).length (natsV (takenTo bs j)) ∧ Below w.heap.size w wr)
  case atStart => exact ⟨0, by omega, rfl, World.ownsRow_nil _ _ _ _, Below.refl _ _⟩
  case round =>
    obtain ⟨j, hj, rfl, hO, hB⟩ := hrel
    have hz := hB.size
    have htl := takenTo_le bs j
    by_cases hlt : j < cs.length
    · have hji : (j : Int) < (cs.length : Int) := by omega
      have hnx := takenTo_next bs j (by omega)
      rw [hbg j (by omega), back_at hlt] at hnx
      have hrl := reach_len cs cs[j] (List.getElem_mem hlt)
      obtain ⟨b, off, rfl, hk⟩ := HK.out j hlt
      have hRj := fun w' (hb : Below w.heap.size w w') => hR j hlt (w'.alloc (.cells #[.int .i64 cs[j].a.tag, .int .i64 cs[j].a.num, .int .i64 cs[j].b.tag, .int .i64 cs[j].b.num] 31)) (KC.out _ (hb.alloc hb.size _)) _ (rg_two w' cs[j].a cs[j].b 31)
      clear hR hbg
      generalize hreach : reachM cs [cs[j].a, cs[j].b] = l at *
      clear hreach
      obtain ⟨q0, q1, q2, q3, q4, q5⟩ := hk wr hB
      go_upto_region 5 with fail
      change Code.wp _ _ _ _ (wr.alloc (rgBox cs[j]))
      have hg : (wr.alloc (rgBox cs[j])).heap[wr.heap.size]? = some (rgBox cs[j]) := heap_alloc_new wr _
      have hB1 : Below w.heap.size w (wr.alloc (rgBox cs[j])) := hB.alloc hz _
      have hO1 : (wr.alloc (rgBox cs[j])).ownsRow w.heap.size 3 1 u3 (takenTo bs j).length (natsV (takenTo bs j)) := hO.alloc _
      have z1 : (wr.alloc (rgBox cs[j])).heap.size = wr.heap.size + 1 := by simp
      generalize wr.alloc (rgBox cs[j]) = W1 at *
      have S1 := rg_cells hg
      have HS : Hid (∀ w', Below W1.heap.size W1 w' → RgS w' wr.heap.size cs[j]) := fun w' h => rg_cells ((h.block wr.heap.size (by omega)).trans hg)
      have hR1 := hRj W1 hB1
      obtain ⟨s2, s3, s4, s5⟩ := S1
      clear HK KC hk q0 q1 q2 q3 q4 q5 hRj hg HS z1
      cases hb : l.contains j
      · rw [hb] at hnx
        have HN : Hid (takenTo bs (j + 1) = takenTo bs j) := by show _ = _; rw [hnx]; simp
        clear hnx
        have HC := hb
        clear hb
        go_wp2_with (first
          | (go_at_call 9; refine hR1.mono ?_; rintro e w9 ⟨v9, rfl, hO9, hb9⟩; have hE9 : Below W1.heap.size W1 w9 := hc_next (rg_new _ _) hb9)
          | (go_at_call 13; refine (rg_Contains l hrl j _ _ _ hO9).mono ?_; rintro e w10 ⟨rfl, hw⟩; obtain rfl := hw; rw [HC]))
        go_roundg (cs.length - (j + 1))
        case measure => omega
        case rel => exact ⟨j + 1, by omega, by go_num, by rw [HN.out]; exact ow_keep hO1 hE9, hB1.trans (hE9.mono hB1.size)⟩
      · rw [hb] at hnx
        have HN : Hid (takenTo bs (j + 1) = takenTo bs j ++ [j]) := by show _ = _; rw [hnx]; simp
        clear hnx
        have HC := hb
        clear hb
        go_wp2_with (first
          | (go_at_call 9; refine hR1.mono ?_; rintro e w9 ⟨v9, rfl, hO9, hb9⟩; have hE9 : Below W1.heap.size W1 w9 := hc_next (rg_new _ _) hb9)
          | (go_at_call 13; refine (rg_Contains l hrl j _ _ _ hO9).mono ?_; rintro e w10 ⟨rfl, hw⟩; obtain rfl := hw; rw [HC]; have hO10 := ow_keep hO1 hE9; have hB10 := hB1.trans (hE9.mono hB1.size); have hz10 := hB10.size)
          | (at_builtin; refine wpList_append_own _ rfl _ _ 25 rfl w.heap.size 3 i1 (.int .i64 0) 1 8 Try.underlying25 hi1 hiz1 his1 hib1 rfl (by decide) _ _ _ rfl (hO10.alloc _) ⟨w10.heap.size, 0, none⟩ 1 1 [.int .i64 (j : Int)] rfl rfl (ow_cells_new w10 _ _) (fun u hu => by simp at hu; subst hu; rfl) (by unfold maxLen; omega) (by omega) (by simp; omega) ?_; intro v8 w8 hO8 hG8 _))
        go_roundg (cs.length - (j + 1))
        case measure => omega
        case rel => exact ⟨j + 1, by omega, by go_num, by rw [HN.out]; exact nats_snoc rfl hO8, (hB10.alloc hz10 _).grown hG8 (by simp; omega) (fun k hk => (hO.lt k hk).1)⟩
    · obtain rfl : j = cs.length := by omega
      have hji : ¬ (cs.length : Int) < (cs.length : Int) := by omega
      have HM : Hid (takenM bs = takenTo bs cs.length) := by show _ = _; rw [takenM, hbl]
      clear hR hbg
      go_wp2_with fail
      go_ret
      exact ⟨_, rfl, by rw [HM.out]; exact hO, hB⟩

end Go.Proofs.Ytndpioniobhbmaa
