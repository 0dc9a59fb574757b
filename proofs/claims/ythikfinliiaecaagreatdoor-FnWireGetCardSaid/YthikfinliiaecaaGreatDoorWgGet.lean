/-
  The program's WireGet.
-/
import Derived.Test.YthikfinliiaecaaGreatDoorWgLine
import Derived.Test.YthikfinliiaecaaGreatDoorLnAside
namespace Go.Proofs.YthikfinliiaecaaGreatDoor
open Go.RowKit Go.Shelf
attribute [local go_sem] Oper.semAt_some

/-- How a reading of cells ends. -/
def GotW (w w' : World) (o : Option (List Ce × Wd)) (r : Ending) : Prop := match o with
  | none => r = .returned (.tuple #[.slice none 0 0, .agg #[.int .i64 0, .int .i64 0], .bool false]) ∧ Below w.heap.size w w'
  | some (cs, d) => (∃ v, r = .returned (.tuple #[v, .agg #[.int .i64 d.tag, .int .i64 d.num], .bool true]) ∧ w'.ownsRow w.heap.size 48 6 v cs.length (cs.flatMap Ce.cells)) ∧ Below w.heap.size w w'
/-- Between two rounds: the list so far, in its box. -/
structure LJ (x d : Nat) (l : List UInt8) (w : World) (k : Nat) (W : World) : Prop where
  box : ∃ v, W.heap[x]? = some (.cells #[v] 24) ∧ W.ownsRow (d + 2) 48 6 v k ((cellsR l k).flatMap Ce.cells)
  below : Below x w W
theorem LJ.aside {x s d : Nat} {l : List UInt8} {w : World} {k : Nat} {A B : World} (h : LJ x d l w k A) (h2 : x < s) (h3 : s < d) (hA : d < A.heap.size) (ha : Aside s d A B) : LJ x d l w k B := by
  obtain ⟨⟨v, hv, hr⟩, hb⟩ := h
  exact ⟨⟨v, by rw [ha.block x (by omega) (by omega) (by omega) (by omega)]; exact hv, own_aside hr h3 ha⟩, below_aside hb (by omega) (by omega) (by omega) ha⟩
theorem LJ.start {x d : Nat} {l : List UInt8} {w W : World} (h : W.heap[x]? = some (.cells #[.slice none 0 0] 24)) (hb : Below x w W) : LJ x d l w 0 W := ⟨⟨_, h, World.ownsRow_nil _ _ _ _⟩, hb⟩
/-- A cell is appended. -/
theorem LJ.next {x s d : Nat} {l : List UInt8} {w : World} {k : Nat} {W w7 w8 : World} {v v' : Value} {o : Obj} (h : LJ x d l w k W) (h2 : x < s) (h3 : s < d) (hd : d + 1 < W.heap.size)
    (hv : W.heap[x]? = some (.cells #[v] 24)) (hrow : W.ownsRow (d + 2) 48 6 v k ((cellsR l k).flatMap Ce.cells)) (h7 : Below W.heap.size W w7) (h8 : (w7.alloc o).grownBy w8 v.ownBlock)
    (hown : w8.ownsRow (d + 2) 48 6 v' (k + 1) ((cellsR l k).flatMap Ce.cells ++ (cellR (Lib.trimSuffix (lineL k l) [10])).cells)) :
    LJ x d l w (k + 1) (w8.setCell ⟨x, 0, none⟩ v') ∧ W.heap.size ≤ (w8.setCell ⟨x, 0, none⟩ v').heap.size ∧ (∀ j, j < d + 2 → j ≠ x → (w8.setCell ⟨x, 0, none⟩ v').heap[j]? = W.heap[j]?) ∧ w8.heap[x]? = some (.cells #[v] 24) := by
  have hrl := World.ownsRow.lt hrow
  have hz7 := h7.size
  have hz8 := h8.size
  have hz : (w8.setCell ⟨x, 0, none⟩ v').heap.size = w8.heap.size := by simp [World.setCell]
  have hal : (w7.alloc o).heap.size = w7.heap.size + 1 := by simp
  have hblk : ∀ j, j < W.heap.size → some j ≠ v.ownBlock → w8.heap[j]? = W.heap[j]? := fun j hj hne => by
    rw [h8.block j (by omega) hne, ((Below.refl w7.heap.size w7).alloc (Nat.le_refl _) o).block j (by omega), h7.block j hj]
  have hnr : ∀ j, j < d + 2 → some j ≠ v.ownBlock := fun j hj e => by
    have := (hrl j e.symm).1
    omega
  have hx8 : w8.heap[x]? = some (.cells #[v] 24) := by rw [hblk x (by omega) (hnr x (by omega))]; exact hv
  have hset : ∀ j, j ≠ x → (w8.setCell ⟨x, 0, none⟩ v').heap[j]? = w8.heap[j]? := fun j hj => Below.heap_setCell _ _ _ _ hj
  have hb8 : Below x w w8 := by
    have e1 := h.below.trans (h7.mono (by have := h.below.size; omega))
    refine ⟨h8.os.trans ((((Below.refl x w7).alloc (by omega) o).os).trans e1.os), h8.tape.trans ((((Below.refl x w7).alloc (by omega) o).tape).trans e1.tape), h8.output.trans ((((Below.refl x w7).alloc (by omega) o).output).trans e1.output), by have := h.below.size; omega, fun j hj => ?_⟩
    rw [hblk j (by omega) (hnr j (by omega))]
    exact h.below.block j hj
  refine ⟨⟨⟨v', ?_, ?_⟩, hb8.setCell (Nat.le_refl _) _⟩, by omega, fun j hj hne => by rw [hset j hne]; exact hblk j (by omega) (hnr j hj), hx8⟩
  · unfold World.setCell
    simp only [Array.getElem?_modify]
    rw [hx8]
    simp
  · rw [cellsR_next, List.flatMap_append]
    show (w8.setCell _ v').ownsRow (d + 2) _ 6 v' (k + 1) ((cellsR l k).flatMap Ce.cells ++ (Ce.cells (cellR (Lib.trimSuffix (lineL k l) [10])) ++ []))
    rw [List.append_nil]
    obtain ⟨g1, ⟨g2, g3⟩ | ⟨g, cap, cur, rfl, hg, hh, r⟩⟩ := hown
    · exact ⟨g1, Or.inl ⟨g2, g3⟩⟩
    · exact ⟨g1, Or.inr ⟨g, cap, cur, rfl, hg, by rw [hset g (by omega)]; exact hh, r⟩⟩
theorem cells_info : ∃ i, Tryz.prog.info? 48 = some i ∧ i.zero = some zeroC.val ∧ i.size = 6 ∧ i.bytes = 48 := by
  have hinfo : (Tryz.prog.info? 48).map (fun i => (i.zero, i.size, i.bytes)) = some (some zeroC.val, 6, 48) := by kernel_rfl
  obtain ⟨i, hi, hz⟩ := Option.map_eq_some_iff.1 hinfo
  simp only [Prod.mk.injEq] at hz
  exact ⟨i, hi, hz.1, hz.2.1, hz.2.2⟩
theorem cut_le' (l : List UInt8) : (Lib.cut l [10]).1.length ≤ l.length ∧ (Lib.cut l [10]).2.1.length ≤ l.length := by
  unfold Lib.cut
  split
  · exact ⟨by rw [List.length_take]; omega, by rw [List.length_drop]; omega⟩
  · exact ⟨Nat.le_refl _, Nat.zero_le _⟩
abbrev boxW (d : Wd) : Obj := .cells #[.int .i64 d.tag, .int .i64 d.num] 26
theorem boxW_two {w : World} {g : Nat} {d : Wd} (h : w.heap[g]? = some (boxW d)) : w.cell? ⟨g, 0, none⟩ = some (.int .i64 d.tag) ∧ w.cell? ⟨g, 1, none⟩ = some (.int .i64 d.num) := by
  have key := fun j => cell_of_row _ _ j _ _ _ h
  exact ⟨key 0, key 1⟩
theorem boxW_froz {w : World} {b : Nat} {d : Wd} (h : w.heap[b]? = some (boxW d)) : ∀ o, w.frozen? ⟨b, o, none⟩ = false := fun o => by
  unfold World.frozen?
  rw [h]
  simp

theorem boxW_set {w : World} {b : Nat} {d : Wd} (h : w.heap[b]? = some (boxW d)) (e : Wd) : ((w.setCell ⟨b, 0, none⟩ (.int .i64 e.tag)).setCell ⟨b, 1, none⟩ (.int .i64 e.num)).heap[b]? = some (boxW e) := by
  unfold World.setCell
  simp only [Array.getElem?_modify, if_true]
  rw [h]
  rfl
theorem boxW_put {A : World} {b d : Nat} {x : Wd} (h : A.heap[b]? = some (boxW x)) (hne : b ≠ d) (o : Obj) : (A.putObj d o).heap[b]? = some (boxW x) := by
  rw [World.putObj_heap_other hne]
  exact h
theorem own_set2 {A : World} {b n sz : Nat} {e : TypeId} {v v0 v1 : Value} {xs : List Value} (h : A.ownsRow (b + 1) e sz v n xs) : ((A.setCell ⟨b, 0, none⟩ v0).setCell ⟨b, 1, none⟩ v1).ownsRow (b + 1) e sz v n xs := by
  obtain ⟨h1, ⟨h2, h3⟩ | ⟨g, cap, cur, rfl, hg, hh, r⟩⟩ := h
  · exact ⟨h1, Or.inl ⟨h2, h3⟩⟩
  · exact ⟨h1, Or.inr ⟨g, cap, cur, rfl, hg, by rw [Below.heap_setCell _ _ _ _ (by dsimp only; omega), Below.heap_setCell _ _ _ _ (by dsimp only; omega)]; exact hh, r⟩⟩
theorem set_two_other {w : World} {b c : Nat} {v0 v1 : Value} (hne : c ≠ b) : ((w.setCell ⟨b, 0, none⟩ v0).setCell ⟨b, 1, none⟩ v1).heap[c]? = w.heap[c]? := by
  rw [Below.heap_setCell _ _ _ _ hne, Below.heap_setCell _ _ _ _ hne]

set_option maxRecDepth 100000 in
set_option maxHeartbeats 4000000 in
theorem impl_WireGet (l : List UInt8) (hl : l.length ≤ 1048576) (w : World) (hT : PowTab w) (hC : CTab w) (hR : RTab w) :
    Calls Tryz.prog 5 #[.string (bx l)] w fun r w' => GotW w w' (getW l) r := by
  by_cases h0 : l = []
  · subst h0
    have hg : getW [] = none := if_neg (fun h => h.1 rfl)
    rw [hg]
    show Calls Tryz.prog 5 #[.string ⟨#[]⟩] w _
    go_enter Tryz.func5, Tryz.ntmps5
    go_wp2_with fail
    exact bodyPost_ret (v := .tuple #[.slice none 0 0, .agg #[.int .i64 0, .int .i64 0], .bool false]) (by simp [results, Tryz.results5, go_sem]) rfl ⟨rfl, (Below.refl _ _).alloc (Nat.le_refl _) _⟩
  have hsz : (bx l).size = l.length := bx_size l
  have hq0 : ((bx l).toList == []) = false := by rw [bx_toList]; simpa using h0
  by_cases h4 : 4000 < l.length
  · have hg : getW l = none := if_neg (fun h => by omega)
    rw [hg]
    have hgt : (4000 : Int) < ((bx l).size : Int) := by omega
    generalize bx l = t at *
    go_enter Tryz.func5, Tryz.ntmps5
    go_wp2_with fail
    exact bodyPost_ret (v := .tuple #[.slice none 0 0, .agg #[.int .i64 0, .int .i64 0], .bool false]) (by simp [results, Tryz.results5, go_sem]) rfl ⟨rfl, (Below.refl _ _).alloc (Nat.le_refl _) _⟩
  refine (callsIn_wide (n := 5)).1 ?_
  have hgt : ¬ (4000 : Int) < ((bx l).size : Int) := by omega
  have hb0 : Below w.heap.size w (w.alloc (boxW ⟨0, 0⟩)) := (Below.refl _ _).alloc (Nat.le_refl _) _
  have hle := cut_le' l
  have hCu : Calls Tryz.prog 16 #[.string (bx l), .string ⟨#[10]⟩] (w.alloc (boxW ⟨0, 0⟩)) fun e w2 => e = .returned (.tuple #[.string (bx (Lib.cut l [10]).1), .string (bx (Lib.cut l [10]).2.1), .bool (Lib.cut l [10]).2.2]) ∧ Below (w.alloc (boxW ⟨0, 0⟩)).heap.size (w.alloc (boxW ⟨0, 0⟩)) w2 := str_cut l [10] hl _ (hR.keep hb0)
  have hTW := fun w' (h : RTab w') => impl_textWord (Lib.cut l [10]).1 (by omega) w' h
  have hd : progW l = wordR (Lib.cut l [10]).1 := rfl
  rw [← hd] at hTW
  generalize hD : progW l = D at *
  have HG : Hid (getW l = if wireM (progC l) D = l then some (progC l, D) else none) := by
    show _ = _
    unfold getW
    rw [hD]
    by_cases hw : wireM (progC l) D = l
    · rw [if_pos ⟨h0, by omega, hw⟩, if_pos hw]
    · rw [if_neg (fun h => hw h.2.2), if_neg hw]
  have hpc : progC l = cellsR (Lib.cut l [10]).2.1 (cntL (Lib.cut l [10]).2.1) := rfl
  generalize hPC : progC l = PC at *
  generalize getW l = G at *
  generalize (Lib.cut l [10]).1 = fst at *
  generalize (Lib.cut l [10]).2.1 = rst at *
  generalize (Lib.cut l [10]).2.2 = fnd at *
  obtain ⟨t, ht⟩ : ∃ t, t = bx l := ⟨_, rfl⟩
  have HT : Hid (t = bx l) := ht
  rw [← ht] at hgt hq0 hCu ⊢
  obtain ⟨tf, htf⟩ : ∃ t, t = bx fst := ⟨_, rfl⟩
  rw [← htf] at hCu hTW
  obtain ⟨tr, htr⟩ : ∃ t, t = bx rst := ⟨_, rfl⟩
  have HTR : Hid (tr = bx rst) := htr
  rw [← htr] at hCu
  have HPC : Hid (PC = cellsR rst (cntL rst)) := hpc
  clear ht htf htr hsz hd hD hpc hPC
  refine callsIn_of_wp_marks Tryz.func5 rfl trivial ?_
  simp only [Tryz.ntmps5, List.size_toArray, List.length_cons, List.length_nil, Nat.reduceAdd, Nat.reduceSub, Array.replicate_succ, Array.replicate_zero, List.push_toArray, List.append_toArray, List.nil_append, List.cons_append]
  refine wpIn_wide.2 ?_
  go_wp2_with (first
    | (go_at_call 16; refine hCu.mono ?_; rintro r w2 ⟨rfl, hb2⟩; have hB2 := wi_next hb0 hb2; have hx2 : w2.heap[w.heap.size]? = some (boxW ⟨0, 0⟩) := (hb2.block _ (by simp)).trans (heap_alloc_new w _))
    | (go_at_call 17; refine (hTW _ (hR.keep hB2)).mono ?_; rintro r w3 ⟨rfl, hb3⟩; have hB3 := wi_next hB2 hb3; have hx3 : w3.heap[w.heap.size]? = some (boxW ⟨0, 0⟩) := (hb3.block _ (Array.getElem?_eq_some_iff.1 hx2).1).trans hx2)
    | (go_at_call 18; refine (lines_new _ _).mono ?_; rintro r w4 ⟨rfl, rfl⟩))
  obtain ⟨W0, hW0⟩ : ∃ W0, W0 = ((w3.alloc (boxW D)).alloc (.cells #[.slice none 0 0] 24)).alloc (.cells #[.string tr] 9) := ⟨_, rfl⟩
  have hlr : rst.length ≤ 1048576 := by omega
  have hz3 : w.heap.size < w3.heap.size := (Array.getElem?_eq_some_iff.1 hx3).1
  have hz0 : W0.heap.size = w3.heap.size + 3 := by rw [hW0]; simp
  have hb30 : Below w3.heap.size w3 W0 := by rw [hW0]; exact ((wg_new _ _).alloc (by simp) _).alloc (by simp; omega) _
  have hB0 : Below w.heap.size w W0 := wi_next hB3 hb30
  have hr0 : W0.heap[w.heap.size]? = some (boxW ⟨0, 0⟩) := (hb30.block _ hz3).trans hx3
  have hD0 : W0.heap[w3.heap.size]? = some (boxW D) := by
    rw [hW0]
    have e1 := heap_alloc_new w3 (boxW D)
    have e2 := (wg_new (w3.alloc (boxW D)) (.cells #[.slice none 0 0] 24)).block w3.heap.size (by simp)
    have e3 := (wg_new ((w3.alloc (boxW D)).alloc (.cells #[.slice none 0 0] 24)) (.cells #[.string tr] 9)).block w3.heap.size (by simp; omega)
    exact e3.trans (e2.trans e1)
  have hx0 : W0.heap[w3.heap.size + 1]? = some (.cells #[.slice none 0 0] 24) := by
    rw [hW0]
    have e2 := heap_alloc_new (w3.alloc (boxW D)) (.cells #[.slice none 0 0] 24)
    rw [World.size_alloc] at e2
    have e3 := (wg_new ((w3.alloc (boxW D)).alloc (.cells #[.slice none 0 0] 24)) (.cells #[.string tr] 9)).block (w3.heap.size + 1) (by simp)
    exact e3.trans e2
  have hs0 : TextIn (w3.heap.size + 2) rst W0 := by
    rw [hW0]
    have e3 := heap_alloc_new ((w3.alloc (boxW D)).alloc (.cells #[.slice none 0 0] 24)) (.cells #[.string tr] 9)
    rw [World.size_alloc, World.size_alloc] at e3
    unfold TextIn
    rw [← HTR.out]
    exact e3
  have hp1 : (w3.alloc (boxW D)).heap.size = w3.heap.size + 1 := by simp
  have hp2 : ((w3.alloc (boxW D)).alloc (.cells #[.slice none 0 0] 24)).heap.size = w3.heap.size + 2 := by simp
  rw [← hW0]
  clear hW0 hp1 hp2 hb30 hCu hTW hb2 hb3 hx2 hx3 hB2
  refine wpIn_wide.1 (range_each (n := 5) (by omega) (gf := 43) (lb := #[.pointer (some ⟨w3.heap.size + 2, 0, none⟩)]) rfl (enters_of Tryz.func43 (by kernel_rfl) rfl) (s := w3.heap.size + 2) (N := cntL rst) (by omega) (encs := fun k => #[.string (bx (lineL k rst))]) (fun _ => rfl) (lines_hands rst hlr (w3.heap.size + 2) 4 (by omega))
    (fun W hb => (hb.block _ (by omega)).trans hs0) (fun k W => LJ (w3.heap.size + 1) W0.heap.size rst W0 k W) (fun k A B hi hA ha => hi.aside (by omega) (by omega) (by omega) ha) (fun W hb => LJ.start ((hb.block _ (by omega)).trans hx0) (hb.mono (by omega)))
    ?act ?assign ?body ?done)
  case assign =>
    intro k W K hk hK
    gi_wp2
    exact hK
  case body =>
      intro k W hk hi hW
      have hiH : Hid (LJ (w3.heap.size + 1) W0.heap.size rst W0 k W) := hi
      obtain ⟨⟨v, hv, hrow⟩, hbW0⟩ := hi
      have hbW : Below w.heap.size w W := hB0.trans (hbW0.mono (by omega))
      have c0 : W.cell? ⟨w3.heap.size + 1, 0, none⟩ = some v := by rw [cell_of_row _ _ _ _ _ _ hv]; rfl
      have f0 : W.frozen? ⟨w3.heap.size + 1, 0, none⟩ = false := by unfold World.frozen?; rw [hv]; simp
      have hmx : Tryz.prog.follows .mixedOrders = true := by kernel_rfl
      have hlen : (lineL k rst).length ≤ 1048576 := Nat.le_trans (line_len_le k rst) hlr
      have hd0 : Below W.heap.size W W.drew := (Below.refl _ _).drew
      have hwW := hbW.size
      have hzW : W0.heap.size ≤ W.heap.size := hbW0.size
      have HTr : ∀ w', Calls Tryz.prog 20 #[.string (bx (lineL k rst)), .string ⟨#[10]⟩] w' fun e w2 => e = .returned (.string (bx (Lib.trimSuffix (lineL k rst) [10]))) ∧ w2 = w' := fun w' => trim_suffix (lineL k rst) [10] hlen w'
      have hlt : (Lib.trimSuffix (lineL k rst) [10]).length ≤ 1048576 := by
        refine Nat.le_trans ?_ hlen
        unfold Lib.trimSuffix
        split
        · rw [List.length_take]; omega
        · exact Nat.le_refl _
      have HL : ∀ w', Below W.heap.size W w' → Calls Tryz.prog 19 #[.string (bx (Lib.trimSuffix (lineL k rst) [10]))] w' fun r w2 => r = .returned (cellR (Lib.trimSuffix (lineL k rst) [10])).val ∧ Below W.heap.size W w2 := fun w' h => (impl_lineCell _ hlt w' (hC.below (hbW.trans (h.mono hwW)) hC.pos) (hR.keep (hbW.trans (h.mono hwW)))).mono fun r w2 ⟨h1, h2⟩ => ⟨h1, wi_next h h2⟩
      have HC7 : ∀ w', Below W.heap.size W w' → w'.cell? ⟨w3.heap.size + 1, 0, none⟩ = some v ∧ w'.frozen? ⟨w3.heap.size + 1, 0, none⟩ = false ∧ w'.ownsRow (W0.heap.size + 2) 48 6 v k ((cellsR rst k).flatMap Ce.cells) := fun w' h => by
        have hb := h.block (w3.heap.size + 1) (by omega)
        exact ⟨(World.cell?_of_block (a := ⟨w3.heap.size + 1, 0, none⟩) hb).trans c0, (World.frozen?_of_block (a := ⟨w3.heap.size + 1, 0, none⟩) hb).trans f0, ow_keep hrow h⟩
      have HN : Hid (∀ (w7 w8 : World) (o : Obj) (v' : Value), Below W.heap.size W w7 → (w7.alloc o).grownBy w8 v.ownBlock → w8.ownsRow (W0.heap.size + 2) 48 6 v' (k + 1) ((cellsR rst k).flatMap Ce.cells ++ (cellR (Lib.trimSuffix (lineL k rst) [10])).cells) →
          LJ (w3.heap.size + 1) W0.heap.size rst W0 (k + 1) (w8.setCell ⟨w3.heap.size + 1, 0, none⟩ v') ∧ W.heap.size ≤ (w8.setCell ⟨w3.heap.size + 1, 0, none⟩ v').heap.size ∧ (∀ j, j < W0.heap.size + 2 → j ≠ w3.heap.size + 1 → (w8.setCell ⟨w3.heap.size + 1, 0, none⟩ v').heap[j]? = W.heap[j]?) ∧ w8.heap[w3.heap.size + 1]? = some (.cells #[v] 24)) := fun w7 w8 o v' h7 h8 hown =>
        hiH.out.next (s := w3.heap.size + 2) (by omega) (by omega) hW hv hrow h7 h8 hown
      obtain ⟨i0, hi0, hz1, hz2, hz3'⟩ := cells_info
      have hz3 := hz3'
      have hkc := lns_le rst
      have hfl : ((cellsR rst k).flatMap Ce.cells).length = k * 6 := by
        rw [ow_flat_len (n := 6) (fun _ => rfl), cellsR_length]
      generalize (cellsR rst k).flatMap Ce.cells = xs at *
      generalize cellR (Lib.trimSuffix (lineL k rst) [10]) = c at *
      generalize bx (Lib.trimSuffix (lineL k rst) [10]) = tm at *
      generalize bx (lineL k rst) = tl at *
      clear hrow hv hbW
      gi_wp2
      refine wpIn_region_any hmx ?_
      change wpAnyIn _ _ _ _ _ _ _ _ _ (World.drew _)
      refine wpAnyIn_ready (rs := [0, 1]) (by kernel_rfl) (by simp) ?_
      refine AllReadyIn.cons rfl (fun K hK => ?_) (AllReadyIn.cons rfl (fun K hK => ?_) AllReadyIn.nil)
      · go_simp
        refine hK _ _ ?_
        clear hK K
        refine wpAnyIn_ready (rs := [1]) (by kernel_rfl) (by simp) ?_
        refine AllReadyIn.cons rfl (fun K hK => ?_) AllReadyIn.nil
        go_simp
        refine hK _ _ ?_
        clear hK K
        refine wpAnyIn_ready (rs := [2]) (by kernel_rfl) (by simp) ?_
        refine AllReadyIn.cons rfl (fun K hK => ?_) AllReadyIn.nil
        go_simp
        refine ⟨trivial, (CallsIn.inRound _ (callsIn_wide.2 (HTr _))).mono ?_⟩
        rintro e w6 ⟨rfl, rfl⟩
        refine hK _ _ ?_
        clear hK K
        refine wpAnyIn_ready (rs := [3]) (by kernel_rfl) (by simp) ?_
        refine AllReadyIn.cons rfl (fun K hK => ?_) AllReadyIn.nil
        go_simp
        refine ⟨trivial, (CallsIn.inRound _ (callsIn_wide.2 (HL _ hd0))).mono ?_⟩
        rintro e w7 ⟨rfl, hb7⟩
        obtain ⟨c7, f7, r7⟩ := HC7 _ hb7
        have hz7 := hb7.size
        have hne7 : w3.heap.size + 1 ≠ w7.heap.size := by omega
        have hlt7 : w3.heap.size + 1 < w7.heap.size := by omega
        obtain ⟨v8, w8, hrun, hown8, hgr8, _⟩ := run_append_own (P := Tryz.prog) (w7.alloc (boxC c)) (W0.heap.size + 2) 24 24 48 i0 zeroC.val 6 48 Tryz.underlying24 hi0 hz1 hz2 hz3 rfl (by decide) v k xs (r7.alloc _) ⟨w7.heap.size, 0, none⟩ 1 1 c.cells rfl (ow_cells_new w7 #[.int .i64 c.kind, .int .i64 c.num, .int .i64 c.a.tag, .int .i64 c.a.num, .int .i64 c.b.tag, .int .i64 c.b.num] _) (by simp [Ce.cells, Value.oneCell']) (by unfold maxLen; omega) (by omega) (by simp; omega)
        obtain ⟨g8, cap8, rfl⟩ := ownsRow_succ hown8
        obtain ⟨hN1, hN2, hN3, hN4⟩ := HN.out w7 w8 _ _ hb7 hgr8 hown8
        have c8 : w8.cell? ⟨w3.heap.size + 1, 0, none⟩ = some v := by rw [cell_of_row _ _ _ _ _ _ hN4]; rfl
        have f8 : w8.frozen? ⟨w3.heap.size + 1, 0, none⟩ = false := by unfold World.frozen?; rw [hN4]; simp
        refine hK _ _ ?_
        clear hK K
        refine wpAnyIn_ready (rs := [4]) (by kernel_rfl) (by simp) ?_
        refine AllReadyIn.cons rfl (fun K hK => ?_) AllReadyIn.nil
        go_simp
        refine hK _ _ ?_
        clear hK K
        refine wpAnyIn_ready (rs := [5]) (by kernel_rfl) (by simp) ?_
        refine AllReadyIn.cons rfl (fun K hK => ?_) AllReadyIn.nil
        rw [if_pos (by rfl)]
        refine op_append_in rfl rfl rfl hrun ?_
        refine hK _ _ ?_
        clear hK K
        refine wpAnyIn_ready (rs := [6]) (by kernel_rfl) (by simp) ?_
        refine AllReadyIn.cons rfl (fun K hK => ?_) AllReadyIn.nil
        go_simp
        refine hK _ _ ?_
        clear hK K
        refine wpAnyIn_done (by kernel_rfl) ?_ _
        exact ⟨rfl, hN1, hN2, hN3 _ (by omega) (by omega), hN3 _ (by omega) (by omega), hN3 _ (by omega) (by omega)⟩
      · go_simp
        refine hK _ _ ?_
        clear hK K
        refine wpAnyIn_ready (rs := [0, 2]) (by kernel_rfl) (by simp) ?_
        refine AllReadyIn.cons rfl (fun K hK => ?_) (AllReadyIn.cons rfl (fun K hK => ?_) AllReadyIn.nil)
        · go_simp
          refine hK _ _ ?_
          clear hK K
          refine wpAnyIn_ready (rs := [2]) (by kernel_rfl) (by simp) ?_
          refine AllReadyIn.cons rfl (fun K hK => ?_) AllReadyIn.nil
          go_simp
          refine ⟨trivial, (CallsIn.inRound _ (callsIn_wide.2 (HTr _))).mono ?_⟩
          rintro e w6 ⟨rfl, rfl⟩
          refine hK _ _ ?_
          clear hK K
          refine wpAnyIn_ready (rs := [3]) (by kernel_rfl) (by simp) ?_
          refine AllReadyIn.cons rfl (fun K hK => ?_) AllReadyIn.nil
          go_simp
          refine ⟨trivial, (CallsIn.inRound _ (callsIn_wide.2 (HL _ hd0))).mono ?_⟩
          rintro e w7 ⟨rfl, hb7⟩
          obtain ⟨c7, f7, r7⟩ := HC7 _ hb7
          have hz7 := hb7.size
          have hne7 : w3.heap.size + 1 ≠ w7.heap.size := by omega
          have hlt7 : w3.heap.size + 1 < w7.heap.size := by omega
          obtain ⟨v8, w8, hrun, hown8, hgr8, _⟩ := run_append_own (P := Tryz.prog) (w7.alloc (boxC c)) (W0.heap.size + 2) 24 24 48 i0 zeroC.val 6 48 Tryz.underlying24 hi0 hz1 hz2 hz3 rfl (by decide) v k xs (r7.alloc _) ⟨w7.heap.size, 0, none⟩ 1 1 c.cells rfl (ow_cells_new w7 #[.int .i64 c.kind, .int .i64 c.num, .int .i64 c.a.tag, .int .i64 c.a.num, .int .i64 c.b.tag, .int .i64 c.b.num] _) (by simp [Ce.cells, Value.oneCell']) (by unfold maxLen; omega) (by omega) (by simp; omega)
          obtain ⟨g8, cap8, rfl⟩ := ownsRow_succ hown8
          obtain ⟨hN1, hN2, hN3, hN4⟩ := HN.out w7 w8 _ _ hb7 hgr8 hown8
          have c8 : w8.cell? ⟨w3.heap.size + 1, 0, none⟩ = some v := by rw [cell_of_row _ _ _ _ _ _ hN4]; rfl
          have f8 : w8.frozen? ⟨w3.heap.size + 1, 0, none⟩ = false := by unfold World.frozen?; rw [hN4]; simp
          refine hK _ _ ?_
          clear hK K
          refine wpAnyIn_ready (rs := [4]) (by kernel_rfl) (by simp) ?_
          refine AllReadyIn.cons rfl (fun K hK => ?_) AllReadyIn.nil
          go_simp
          refine hK _ _ ?_
          clear hK K
          refine wpAnyIn_ready (rs := [5]) (by kernel_rfl) (by simp) ?_
          refine AllReadyIn.cons rfl (fun K hK => ?_) AllReadyIn.nil
          rw [if_pos (by rfl)]
          refine op_append_in rfl rfl rfl hrun ?_
          refine hK _ _ ?_
          clear hK K
          refine wpAnyIn_ready (rs := [6]) (by kernel_rfl) (by simp) ?_
          refine AllReadyIn.cons rfl (fun K hK => ?_) AllReadyIn.nil
          go_simp
          refine hK _ _ ?_
          clear hK K
          refine wpAnyIn_done (by kernel_rfl) ?_ _
          exact ⟨rfl, hN1, hN2, hN3 _ (by omega) (by omega), hN3 _ (by omega) (by omega), hN3 _ (by omega) (by omega)⟩
        · go_simp
          refine ⟨trivial, (CallsIn.inRound _ (callsIn_wide.2 (HTr _))).mono ?_⟩
          rintro e w6 ⟨rfl, rfl⟩
          refine hK _ _ ?_
          clear hK K
          refine wpAnyIn_ready (rs := [0, 3]) (by kernel_rfl) (by simp) ?_
          refine AllReadyIn.cons rfl (fun K hK => ?_) (AllReadyIn.cons rfl (fun K hK => ?_) AllReadyIn.nil)
          · go_simp
            refine hK _ _ ?_
            clear hK K
            refine wpAnyIn_ready (rs := [3]) (by kernel_rfl) (by simp) ?_
            refine AllReadyIn.cons rfl (fun K hK => ?_) AllReadyIn.nil
            go_simp
            refine ⟨trivial, (CallsIn.inRound _ (callsIn_wide.2 (HL _ hd0))).mono ?_⟩
            rintro e w7 ⟨rfl, hb7⟩
            obtain ⟨c7, f7, r7⟩ := HC7 _ hb7
            have hz7 := hb7.size
            have hne7 : w3.heap.size + 1 ≠ w7.heap.size := by omega
            have hlt7 : w3.heap.size + 1 < w7.heap.size := by omega
            obtain ⟨v8, w8, hrun, hown8, hgr8, _⟩ := run_append_own (P := Tryz.prog) (w7.alloc (boxC c)) (W0.heap.size + 2) 24 24 48 i0 zeroC.val 6 48 Tryz.underlying24 hi0 hz1 hz2 hz3 rfl (by decide) v k xs (r7.alloc _) ⟨w7.heap.size, 0, none⟩ 1 1 c.cells rfl (ow_cells_new w7 #[.int .i64 c.kind, .int .i64 c.num, .int .i64 c.a.tag, .int .i64 c.a.num, .int .i64 c.b.tag, .int .i64 c.b.num] _) (by simp [Ce.cells, Value.oneCell']) (by unfold maxLen; omega) (by omega) (by simp; omega)
            obtain ⟨g8, cap8, rfl⟩ := ownsRow_succ hown8
            obtain ⟨hN1, hN2, hN3, hN4⟩ := HN.out w7 w8 _ _ hb7 hgr8 hown8
            have c8 : w8.cell? ⟨w3.heap.size + 1, 0, none⟩ = some v := by rw [cell_of_row _ _ _ _ _ _ hN4]; rfl
            have f8 : w8.frozen? ⟨w3.heap.size + 1, 0, none⟩ = false := by unfold World.frozen?; rw [hN4]; simp
            refine hK _ _ ?_
            clear hK K
            refine wpAnyIn_ready (rs := [4]) (by kernel_rfl) (by simp) ?_
            refine AllReadyIn.cons rfl (fun K hK => ?_) AllReadyIn.nil
            go_simp
            refine hK _ _ ?_
            clear hK K
            refine wpAnyIn_ready (rs := [5]) (by kernel_rfl) (by simp) ?_
            refine AllReadyIn.cons rfl (fun K hK => ?_) AllReadyIn.nil
            rw [if_pos (by rfl)]
            refine op_append_in rfl rfl rfl hrun ?_
            refine hK _ _ ?_
            clear hK K
            refine wpAnyIn_ready (rs := [6]) (by kernel_rfl) (by simp) ?_
            refine AllReadyIn.cons rfl (fun K hK => ?_) AllReadyIn.nil
            go_simp
            refine hK _ _ ?_
            clear hK K
            refine wpAnyIn_done (by kernel_rfl) ?_ _
            exact ⟨rfl, hN1, hN2, hN3 _ (by omega) (by omega), hN3 _ (by omega) (by omega), hN3 _ (by omega) (by omega)⟩
          · go_simp
            refine ⟨trivial, (CallsIn.inRound _ (callsIn_wide.2 (HL _ hd0))).mono ?_⟩
            rintro e w7 ⟨rfl, hb7⟩
            obtain ⟨c7, f7, r7⟩ := HC7 _ hb7
            have hz7 := hb7.size
            have hne7 : w3.heap.size + 1 ≠ w7.heap.size := by omega
            have hlt7 : w3.heap.size + 1 < w7.heap.size := by omega
            obtain ⟨v8, w8, hrun, hown8, hgr8, _⟩ := run_append_own (P := Tryz.prog) (w7.alloc (boxC c)) (W0.heap.size + 2) 24 24 48 i0 zeroC.val 6 48 Tryz.underlying24 hi0 hz1 hz2 hz3 rfl (by decide) v k xs (r7.alloc _) ⟨w7.heap.size, 0, none⟩ 1 1 c.cells rfl (ow_cells_new w7 #[.int .i64 c.kind, .int .i64 c.num, .int .i64 c.a.tag, .int .i64 c.a.num, .int .i64 c.b.tag, .int .i64 c.b.num] _) (by simp [Ce.cells, Value.oneCell']) (by unfold maxLen; omega) (by omega) (by simp; omega)
            obtain ⟨g8, cap8, rfl⟩ := ownsRow_succ hown8
            obtain ⟨hN1, hN2, hN3, hN4⟩ := HN.out w7 w8 _ _ hb7 hgr8 hown8
            have c8 : w8.cell? ⟨w3.heap.size + 1, 0, none⟩ = some v := by rw [cell_of_row _ _ _ _ _ _ hN4]; rfl
            have f8 : w8.frozen? ⟨w3.heap.size + 1, 0, none⟩ = false := by unfold World.frozen?; rw [hN4]; simp
            refine hK _ _ ?_
            clear hK K
            refine wpAnyIn_ready (rs := [0, 4]) (by kernel_rfl) (by simp) ?_
            refine AllReadyIn.cons rfl (fun K hK => ?_) (AllReadyIn.cons rfl (fun K hK => ?_) AllReadyIn.nil)
            · go_simp
              refine hK _ _ ?_
              clear hK K
              refine wpAnyIn_ready (rs := [4]) (by kernel_rfl) (by simp) ?_
              refine AllReadyIn.cons rfl (fun K hK => ?_) AllReadyIn.nil
              go_simp
              refine hK _ _ ?_
              clear hK K
              refine wpAnyIn_ready (rs := [5]) (by kernel_rfl) (by simp) ?_
              refine AllReadyIn.cons rfl (fun K hK => ?_) AllReadyIn.nil
              rw [if_pos (by rfl)]
              refine op_append_in rfl rfl rfl hrun ?_
              refine hK _ _ ?_
              clear hK K
              refine wpAnyIn_ready (rs := [6]) (by kernel_rfl) (by simp) ?_
              refine AllReadyIn.cons rfl (fun K hK => ?_) AllReadyIn.nil
              go_simp
              refine hK _ _ ?_
              clear hK K
              refine wpAnyIn_done (by kernel_rfl) ?_ _
              exact ⟨rfl, hN1, hN2, hN3 _ (by omega) (by omega), hN3 _ (by omega) (by omega), hN3 _ (by omega) (by omega)⟩
            · go_simp
              refine hK _ _ ?_
              clear hK K
              refine wpAnyIn_ready (rs := [0]) (by kernel_rfl) (by simp) ?_
              refine AllReadyIn.cons rfl (fun K hK => ?_) AllReadyIn.nil
              go_simp
              refine hK _ _ ?_
              clear hK K
              refine wpAnyIn_ready (rs := [5]) (by kernel_rfl) (by simp) ?_
              refine AllReadyIn.cons rfl (fun K hK => ?_) AllReadyIn.nil
              rw [if_pos (by rfl)]
              refine op_append_in rfl rfl rfl hrun ?_
              refine hK _ _ ?_
              clear hK K
              refine wpAnyIn_ready (rs := [6]) (by kernel_rfl) (by simp) ?_
              refine AllReadyIn.cons rfl (fun K hK => ?_) AllReadyIn.nil
              go_simp
              refine hK _ _ ?_
              clear hK K
              refine wpAnyIn_done (by kernel_rfl) ?_ _
              exact ⟨rfl, hN1, hN2, hN3 _ (by omega) (by omega), hN3 _ (by omega) (by omega), hN3 _ (by omega) (by omega)⟩

  case done =>
    intro W hi hW hD
    obtain ⟨⟨v, hv, hrow⟩, hbW0⟩ := hi
    have hbW : Below w.heap.size w W := hB0.trans (hbW0.mono (by omega))
    have hwW := hbW.size
    have hzW : W0.heap.size ≤ W.heap.size := hbW0.size
    have hkc := lns_le rst
    have hPl : PC.length = cntL rst := by rw [HPC.out, cellsR_length]
    rw [← HPC.out, ← hPl] at hrow
    have hcW : Cells W (· < W.heap.size) PC v := wi_cells hrow
    have hWP := impl_WirePut PC (by omega) D v W hcW (hT.keep hbW) (hC.below hbW hC.pos)
    have HK : ∀ w', Below W.heap.size W w' → (w'.cell? ⟨w3.heap.size + 1, 0, none⟩ = some v ∧ w'.cell? ⟨w3.heap.size, 0, none⟩ = some (.int .i64 D.tag) ∧ w'.cell? ⟨w3.heap.size, 1, none⟩ = some (.int .i64 D.num)) ∧ (w'.cell? ⟨w.heap.size, 0, none⟩ = some (.int .i64 0) ∧ w'.cell? ⟨w.heap.size, 1, none⟩ = some (.int .i64 0)) ∧ (w'.frozen? ⟨w.heap.size, 0, none⟩ = false ∧ w'.frozen? ⟨w.heap.size, 1, none⟩ = false) ∧ w'.heap[W0.heap.size]? = some (.deferred (some [])) ∧ Below w.heap.size w w' ∧ w.heap.size < w'.heap.size ∧ w'.heap[w.heap.size]? = some (boxW ⟨0, 0⟩) := fun w' hb => by
      have h1 := (hb.block (w3.heap.size + 1) (by omega)).trans hv
      have h2 := (hb.block w3.heap.size (by omega)).trans ((hbW0.block w3.heap.size (by omega)).trans hD0)
      have h3 := (hb.block w.heap.size (by omega)).trans ((hbW0.block w.heap.size (by omega)).trans hr0)
      obtain ⟨d0, d1⟩ := boxW_two h2
      obtain ⟨e0, e1⟩ := boxW_two h3
      exact ⟨⟨by rw [cell_of_row _ _ _ _ _ _ h1]; rfl, d0, d1⟩, ⟨e0, e1⟩, ⟨boxW_froz h3 0, boxW_froz h3 1⟩, (hb.block _ (by omega)).trans hD, hbW.trans (hb.mono hwW), by have := hb.size; omega, h3⟩
    have HR : Hid (∀ w', Below W.heap.size W w' → w'.ownsRow (w.heap.size + 1) 48 6 v PC.length (PC.flatMap Ce.cells)) := fun w' hb => ow_base (ow_keep hrow hb) (by omega)
    obtain ⟨⟨c0, d0, d1⟩, ⟨e0, e1⟩, ⟨f0, f1⟩, _, _, _, _⟩ := HK W (Below.refl _ _)
    clear hcW hrow hv hbW0 hD hr0 hD0 hx0 hs0 hPl hkc
    by_cases he : wireM PC D = l
    · have hg : Hid (G = some (PC, D)) := by show _ = _; rw [HG.out, if_pos he]
      have hq : ((bx (wireM PC D)).toList == t.toList) = true := by rw [he, HT.out]; simp
      have hq2 : ((bx (wireM PC D)).toList != t.toList) = false := by rw [bne, hq]; rfl
      clear he HG
      generalize bx (wireM PC D) = tc at *
      go_wp2_with (go_at_call 8; refine hWP.mono ?_; rintro r w4 ⟨rfl, hb4⟩; (obtain ⟨⟨c4, d4, d5⟩, ⟨e4, e5⟩, ⟨f4, f5⟩, h4, hb5, hz5, hx4⟩ := HK _ hb4))
      have c6 : w4.drew.cell? ⟨w3.heap.size + 1, 0, none⟩ = some v := c4
      have d6 : w4.drew.cell? ⟨w3.heap.size, 0, none⟩ = some (.int .i64 D.tag) := d4
      have d7 : w4.drew.cell? ⟨w3.heap.size, 1, none⟩ = some (.int .i64 D.num) := d5
      have e6 : w4.drew.cell? ⟨w.heap.size, 0, none⟩ = some (.int .i64 0) := e4
      have e7 : w4.drew.cell? ⟨w.heap.size, 1, none⟩ = some (.int .i64 0) := e5
      have f6 : w4.drew.frozen? ⟨w.heap.size, 0, none⟩ = false := f4
      have f7 : w4.drew.frozen? ⟨w.heap.size, 1, none⟩ = false := f5
      have HS2 : ∀ v0 v1, ((w4.drew.setCell ⟨w.heap.size, 0, none⟩ v0).setCell ⟨w.heap.size, 1, none⟩ v1).cell? ⟨w3.heap.size + 1, 0, none⟩ = some v ∧ ((w4.drew.setCell ⟨w.heap.size, 0, none⟩ v0).setCell ⟨w.heap.size, 1, none⟩ v1).cell? ⟨w3.heap.size, 0, none⟩ = some (.int .i64 D.tag) ∧ ((w4.drew.setCell ⟨w.heap.size, 0, none⟩ v0).setCell ⟨w.heap.size, 1, none⟩ v1).cell? ⟨w3.heap.size, 1, none⟩ = some (.int .i64 D.num) := fun v0 v1 =>
        ⟨(World.cell?_of_block (a := ⟨w3.heap.size + 1, 0, none⟩) (set_two_other (by dsimp only; omega))).trans c6, (World.cell?_of_block (a := ⟨w3.heap.size, 0, none⟩) (set_two_other (by dsimp only; omega))).trans d6, (World.cell?_of_block (a := ⟨w3.heap.size, 1, none⟩) (set_two_other (by dsimp only; omega))).trans d7⟩
      have hWF : ((w4.setCell ⟨w.heap.size, 0, none⟩ (.int .i64 D.tag)).setCell ⟨w.heap.size, 1, none⟩ (.int .i64 D.num)).drew.heap[w.heap.size]? = some (boxW D) := boxW_set hx4 D
      have hDF : ((w4.setCell ⟨w.heap.size, 0, none⟩ (.int .i64 D.tag)).setCell ⟨w.heap.size, 1, none⟩ (.int .i64 D.num)).drew.heap[w3.heap.size + 3]? = some (.deferred (some [])) := by
        rw [← hz0]
        exact (set_two_other (by omega)).trans h4
      have hBF : Below w.heap.size w ((w4.setCell ⟨w.heap.size, 0, none⟩ (.int .i64 D.tag)).setCell ⟨w.heap.size, 1, none⟩ (.int .i64 D.num)).drew := ((hb5.setCell (p := ⟨w.heap.size, 0, none⟩) (Nat.le_refl _) _).setCell (p := ⟨w.heap.size, 1, none⟩) (Nat.le_refl _) _).drew
      have hOF : Hid (((w4.setCell ⟨w.heap.size, 0, none⟩ (.int .i64 D.tag)).setCell ⟨w.heap.size, 1, none⟩ (.int .i64 D.num)).drew.ownsRow (w.heap.size + 1) 48 6 v PC.length (PC.flatMap Ce.cells)) := ow_keep (own_set2 (HR.out _ hb4)) (Below.refl _ _).drew
      have HX := fun o => boxW_two (boxW_put hWF (by omega : w.heap.size ≠ w3.heap.size + 3) o)
      clear HK hT hC hR
      go_region_held3 (fun w' => w'.cell? ⟨w3.heap.size + 1, 0, none⟩ = some v ∧ w'.cell? ⟨w3.heap.size, 0, none⟩ = some (.int .i64 D.tag) ∧ w'.cell? ⟨w3.heap.size, 1, none⟩ = some (.int .i64 D.num))
        (first | exact ⟨c6, d6, d7⟩ | exact HS2 _ _) (fail)
      all_goals
        go_wp2_with fail
        generalize ((w4.setCell ⟨w.heap.size, 0, none⟩ (.int .i64 D.tag)).setCell ⟨w.heap.size, 1, none⟩ (.int .i64 D.num)).drew = WF at *
        refine ⟨by simp, .inl ⟨_, _, rfl, run_takeDeferred hDF, ?_⟩⟩
        refine ⟨.tuple #[v, .agg #[.int .i64 D.tag, .int .i64 D.num], .bool true], by simp [results, Tryz.results5, go_sem, fun o => (HX o).1, fun o => (HX o).2], ?_⟩
        rw [hg.out]
        exact ⟨⟨v, rfl, ow_base (own_put hOF.out hDF _) (by omega)⟩, below_put hBF (by omega) _⟩
    · have hg : Hid (G = none) := by show _ = _; rw [HG.out, if_neg he]
      have hq : ((bx (wireM PC D)).toList == t.toList) = false := by rw [HT.out, bx_toList, bx_toList]; simpa using he
      have hq2 : ((bx (wireM PC D)).toList != t.toList) = true := by rw [bne, hq]; rfl
      clear he HG
      generalize bx (wireM PC D) = tc at *
      go_wp2_with (go_at_call 8; refine hWP.mono ?_; rintro r w4 ⟨rfl, hb4⟩; (obtain ⟨⟨c4, d4, d5⟩, ⟨e4, e5⟩, ⟨f4, f5⟩, h4, hb5, hz5, hx4⟩ := HK _ hb4))
      have hWF : ((w4.setCell ⟨w.heap.size, 0, none⟩ (.int .i64 0)).setCell ⟨w.heap.size, 1, none⟩ (.int .i64 0)).heap[w.heap.size]? = some (boxW ⟨0, 0⟩) := boxW_set hx4 ⟨0, 0⟩
      have hDF : ((w4.setCell ⟨w.heap.size, 0, none⟩ (.int .i64 0)).setCell ⟨w.heap.size, 1, none⟩ (.int .i64 0)).heap[w3.heap.size + 3]? = some (.deferred (some [])) := by
        rw [set_two_other (by omega), ← hz0]
        exact h4
      have hBF : Below w.heap.size w ((w4.setCell ⟨w.heap.size, 0, none⟩ (.int .i64 0)).setCell ⟨w.heap.size, 1, none⟩ (.int .i64 0)) := (hb5.setCell (p := ⟨w.heap.size, 0, none⟩) (Nat.le_refl _) _).setCell (p := ⟨w.heap.size, 1, none⟩) (Nat.le_refl _) _
      have HX := fun o => boxW_two (boxW_put hWF (by omega : w.heap.size ≠ w3.heap.size + 3) o)
      refine ⟨by simp, .inl ⟨_, _, rfl, run_takeDeferred hDF, ?_⟩⟩
      refine ⟨.tuple #[.slice none 0 0, .agg #[.int .i64 0, .int .i64 0], .bool false], by simp [results, Tryz.results5, go_sem, fun o => (HX o).1, fun o => (HX o).2], ?_⟩
      rw [hg.out]
      exact ⟨rfl, below_put hBF (by omega) _⟩
end Go.Proofs.YthikfinliiaecaaGreatDoor

