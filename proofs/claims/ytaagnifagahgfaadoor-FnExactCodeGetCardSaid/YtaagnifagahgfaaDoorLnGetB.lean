/-
  The program's CodeGet.
-/
import Derived.Test.YtaagnifagahgfaaDoorLnGet
namespace Go.Proofs.YtaagnifagahgfaaDoor
open Go.RowKit Go.Shelf
attribute [local go_sem] Oper.semAt_some

/-- What CodeGet reads. -/
def getM (l : List UInt8) : Option (List Wd) := if l.length ≤ 2400 ∧ codeM (opsL l (cntL l)) = true ∧ codeT (opsL l (cntL l)) = l then some (opsL l (cntL l)) else none
/-- How a reading of ops ends. -/
def GotOps (w w' : World) (o : Option (List Wd)) (r : Ending) : Prop := match o with
  | none => r = .returned (.tuple #[.slice none 0 0, .bool false]) ∧ Below w.heap.size w w'
  | some ops => (∃ v, r = .returned (.tuple #[v, .bool true]) ∧ w'.ownsRow w.heap.size 33 2 v ops.length (ops.flatMap Wd.cells)) ∧ Below w.heap.size w w'

theorem op_append_in {F : Fence} {n : Nat} {P : Program} {o : Oper} {a : Act} {w w' : World} {K : Act → World → Prop} {Q : Exit → Act → World → Prop} {s x : Operand} {t : TypeId} {v v' sl : Value} (hop : o.op = Op.call { callee := Callee.builtin Builtin.append, args := #[s, x], argTypes := #[t, t] })
    (hs : a.eval s = v) (hx : a.eval x = sl) (hrun : (Builtin.append_ #[t, t] o.type #[v, sl]).run P w = .ok v' w') (hK : K (a.put o.dst v') w') : o.wpIn F n P a w K Q := by
  refine ⟨by simp [Oper.about, hop, resolve, Target.leads, Sem.run_pure], ?_⟩
  rw [Oper.semAt_plain F _ _ (by rw [hop]; intro c hc; cases hc)]
  simp [execOp, hop, resolve, invoke, builtin, hs, hx, hrun, Result.andThen]
  exact hK
theorem ops_info : ∃ i, Tryd.prog.info? 33 = some i ∧ i.zero = some (.agg #[.int .i64 0, .int .i64 0]) ∧ i.size = 2 ∧ i.bytes = 16 := by
  have hinfo : (Tryd.prog.info? 33).map (fun i => (i.zero, i.size, i.bytes)) = some (some (.agg #[.int .i64 0, .int .i64 0]), 2, 16) := by kernel_rfl
  obtain ⟨i, hi, hz⟩ := Option.map_eq_some_iff.1 hinfo
  simp only [Prod.mk.injEq] at hz
  exact ⟨i, hi, hz.1, hz.2.1, hz.2.2⟩
theorem below_put {b d : Nat} {w A : World} (h : Below b w A) (hd : b ≤ d) (o : Obj) : Below b w (A.putObj d o) :=
  ⟨h.os, h.tape, h.output, by simp; exact h.size, fun k hk => (World.putObj_heap_other (by omega)).trans (h.block k hk)⟩
theorem own_put {A : World} {b d n sz : Nat} {e : TypeId} {v : Value} {xs : List Value} (h : A.ownsRow b e sz v n xs) {ds : Option (List Deferred)} (hd : A.heap[d]? = some (.deferred ds)) (o : Obj) : (A.putObj d o).ownsRow b e sz v n xs := by
  obtain ⟨h1, ⟨h2, h3⟩ | ⟨g, cap, cur, rfl, hg, hh, r⟩⟩ := h
  · exact ⟨h1, Or.inl ⟨h2, h3⟩⟩
  · exact ⟨h1, Or.inr ⟨g, cap, cur, rfl, hg, by rw [World.putObj_heap_other (fun e => by subst e; rw [hh] at hd; cases hd)]; exact hh, r⟩⟩
/-- A row of the call's own is a row of ops. -/
theorem words_of_own {w : World} {B : Nat} {ops : List Wd} {v : Value} {e : TypeId} (h : w.ownsRow B e 2 v ops.length (ops.flatMap Wd.cells)) : Words w (· < w.heap.size) ops v :=
  (OwnR.row (n := 2) (f := Wd.cells) h (fun _ => rfl)).same fun _ hb => ⟨rfl, hb.2⟩
set_option maxRecDepth 100000 in
set_option maxHeartbeats 4000000 in
theorem impl_CodeGet (l : List UInt8) (hl : l.length ≤ 1048576) (w : World) (hT : PowTab w) (hC : OTab w) (hR : RTab w) :
    Calls Tryd.prog 5 #[.string (bx l)] w fun r w' => GotOps w w' (getM l) r := by
  refine (callsIn_wide (n := 5)).1 ?_
  have hsz : (bx l).size = l.length := bx_size l
  by_cases h24 : 2400 < l.length
  · have hg : getM l = none := if_neg (by omega)
    rw [hg]
    have hgt : (2400 : Int) < ((bx l).size : Int) := by omega
    generalize bx l = t at *
    refine callsIn_of_wp_marks Tryd.func5 rfl trivial ?_
    simp only [Tryd.ntmps5, List.size_toArray, List.length_cons, List.length_nil, Nat.reduceAdd, Nat.reduceSub, Array.replicate_succ, Array.replicate_zero, List.push_toArray, List.append_toArray, List.nil_append, List.cons_append]
    refine wpIn_wide.2 ?_
    go_wp2_with fail
    exact ⟨_, results_tmp2 rfl _ _ _, rfl, Below.refl _ _⟩
  · have hgt : ¬ (2400 : Int) < ((bx l).size : Int) := by omega
    obtain ⟨t, ht⟩ : ∃ t, t = bx l := ⟨_, rfl⟩
    have HT : Hid (t = bx l) := ht
    rw [← ht] at hgt ⊢
    clear ht hsz
    generalize hG : getM l = G
    have HG : Hid (getM l = G) := hG
    clear hG
    refine callsIn_of_wp_marks Tryd.func5 rfl trivial ?_
    simp only [Tryd.ntmps5, List.size_toArray, List.length_cons, List.length_nil, Nat.reduceAdd, Nat.reduceSub, Array.replicate_succ, Array.replicate_zero, List.push_toArray, List.append_toArray, List.nil_append, List.cons_append]
    refine wpIn_wide.2 ?_
    go_wp2_with (go_at_call 16; refine (lines_new _ _).mono ?_; rintro r w2 ⟨rfl, rfl⟩)
    obtain ⟨W0, hW0⟩ : ∃ W0, W0 = (w.alloc (.cells #[.slice none 0 0] 22)).alloc (.cells #[.string t] 9) := ⟨_, rfl⟩
    rw [← hW0]
    have hz0 : W0.heap.size = w.heap.size + 2 := by rw [hW0]; simp
    have hb0 : Below w.heap.size w W0 := by rw [hW0]; exact ((Below.refl _ _).alloc (Nat.le_refl _) _).alloc (by simp) _
    have hs0 : TextIn (w.heap.size + 1) l W0 := by
      rw [hW0]
      have := heap_alloc_new (w.alloc (.cells #[.slice none 0 0] 22)) (.cells #[.string t] 9)
      rw [World.size_alloc] at this
      unfold TextIn
      rw [← HT.out]
      exact this
    have hx0 : W0.heap[w.heap.size]? = some (.cells #[.slice none 0 0] 22) := by
      rw [hW0, ((Below.refl _ (w.alloc (.cells #[.slice none 0 0] 22))).alloc (Nat.le_refl _) _).block _ (by simp)]
      exact heap_alloc_new w _
    clear hW0
    refine wpIn_wide.1 (range_each (n := 5) (by omega) (gf := 27) (lb := #[.pointer (some ⟨w.heap.size + 1, 0, none⟩)]) rfl (enters_of Tryd.func27 (by kernel_rfl) rfl) (s := w.heap.size + 1) (N := cntL l) (by omega) (encs := fun k => #[.string (bx (lineL k l))]) (fun _ => rfl) (lines_hands l hl (w.heap.size + 1) 4 (by omega))
      (fun W hb => (hb.block _ (by omega)).trans hs0) (fun k W => LI w.heap.size w.heap.size W0.heap.size l w k W) (fun k A B hi hA ha => hi.aside (Nat.le_refl _) (by omega) (by omega) (by omega) ha) (fun W hb => LI.start ((hb.block _ (by omega)).trans hx0) (hb0.trans (hb.mono (by omega))))
      (fun k => { tmps := #[.string t, undef, .slice none 0 0, .bool false, .pointer (some ⟨w.heap.size, 0, none⟩), .string (bx (lineL k l)), .string t, .int .i64 (t.size : Int), .bool false, .string t, .func (.func 27) #[] #[.pointer (some ⟨w.heap.size + 1, 0, none⟩)], .string (bx (lineL k l)), undef, undef, undef, undef, undef, undef, undef, undef, undef, undef, undef, undef, undef, undef, undef], defers := [] }) ?assign ?body ?done)
    case assign =>
      intro k W K hk hK
      gi_wp2
      exact hK
    case body =>
      intro k W hk hi hW
      have hiH : Hid (LI w.heap.size w.heap.size W0.heap.size l w k W) := hi
      obtain ⟨⟨v, hv, hrow⟩, hbW⟩ := hi
      have c0 : W.cell? ⟨w.heap.size, 0, none⟩ = some v := by rw [cell_of_row _ _ _ _ _ _ hv]; rfl
      have f0 : W.frozen? ⟨w.heap.size, 0, none⟩ = false := by unfold World.frozen?; rw [hv]; simp
      have hmx : Tryd.prog.follows .mixedOrders = true := by kernel_rfl
      have hlen : (lineL k l).length ≤ 1048576 := Nat.le_trans (line_len_le k l) hl
      have hd0 : Below W.heap.size W W.drew := (Below.refl _ _).drew
      have hwW := hbW.size
      have HL : ∀ w', Below W.heap.size W w' → Calls Tryd.prog 17 #[.string (bx (lineL k l))] w' fun r w2 => r = .returned (.agg #[.int .i64 (lineOpM (lineL k l)).tag, .int .i64 (lineOpM (lineL k l)).num]) ∧ Below W.heap.size W w2 := fun w' h => (impl_lineOp (lineL k l) hlen w' (hC.keep (hbW.trans (h.mono hwW))) (hR.keep (hbW.trans (h.mono hwW)))).mono fun r w2 ⟨h1, h2⟩ => ⟨h1, cw_next h h2⟩
      have HC7 : ∀ w', Below W.heap.size W w' → w'.cell? ⟨w.heap.size, 0, none⟩ = some v ∧ w'.frozen? ⟨w.heap.size, 0, none⟩ = false ∧ w'.ownsRow (W0.heap.size + 2) 33 2 v k ((opsL l k).flatMap Wd.cells) := fun w' h => by
        have hb := h.block w.heap.size (by omega)
        exact ⟨(World.cell?_of_block (a := ⟨w.heap.size, 0, none⟩) hb).trans c0, (World.frozen?_of_block (a := ⟨w.heap.size, 0, none⟩) hb).trans f0, ow_keep hrow h⟩
      have HN : Hid (∀ (w7 w8 : World) (o : Obj) (v' : Value), Below W.heap.size W w7 → (w7.alloc o).grownBy w8 v.ownBlock → w8.ownsRow (W0.heap.size + 2) 33 2 v' (k + 1) ((opsL l k).flatMap Wd.cells ++ [.int .i64 (lineOpM (lineL k l)).tag, .int .i64 (lineOpM (lineL k l)).num]) →
          LI w.heap.size w.heap.size W0.heap.size l w (k + 1) (w8.setCell ⟨w.heap.size, 0, none⟩ v') ∧ W.heap.size ≤ (w8.setCell ⟨w.heap.size, 0, none⟩ v').heap.size ∧ (∀ j, j < W0.heap.size + 2 → j ≠ w.heap.size → (w8.setCell ⟨w.heap.size, 0, none⟩ v').heap[j]? = W.heap[j]?) ∧ w8.heap[w.heap.size]? = some (.cells #[v] 22)) := fun w7 w8 o v' h7 h8 hown =>
        hiH.out.next (s := w.heap.size + 1) (Nat.le_refl _) (by omega) (by omega) hW hv hrow h7 h8 hown
      obtain ⟨i0, hi0, hz1, hz2, hz3⟩ := ops_info
      have hkc := lns_le l
      have hfl : ((opsL l k).flatMap Wd.cells).length = k * 2 := by
        rw [ow_flat_len (n := 2) (fun _ => rfl), opsL_length]
      generalize (opsL l k).flatMap Wd.cells = xs at *
      generalize (lineOpM (lineL k l)).tag = kd at *
      generalize (lineOpM (lineL k l)).num = nm at *
      generalize bx (lineL k l) = tl at *
      clear hrow hv hbW
      gi_wp2
      refine wpIn_region_any hmx ?_
      change wpAnyIn _ _ _ _ _ _ _ _ _ (World.drew _)
      refine wpAnyIn_ready (rs := [0, 1]) (by kernel_rfl) (by simp) ?_
      refine AllReadyIn.cons rfl (fun K hK => ?_) (AllReadyIn.cons rfl (fun K hK => ?_) AllReadyIn.nil)
      · go_simp
        refine hK _ _ ?_
        clear hK K
        refine wpAnyIn_ready (rs := [1]) (by kernel_rfl) (by simp) ?_
        refine AllReadyIn.cons rfl (fun K hK => ?_) AllReadyIn.nil
        go_simp
        refine hK _ _ ?_
        clear hK K
        refine wpAnyIn_ready (rs := [2]) (by kernel_rfl) (by simp) ?_
        refine AllReadyIn.cons rfl (fun K hK => ?_) AllReadyIn.nil
        go_simp
        refine ⟨trivial, (CallsIn.inRound _ (callsIn_wide.2 (HL _ hd0))).mono ?_⟩
        rintro e w7 ⟨rfl, hb7⟩
        obtain ⟨c7, f7, r7⟩ := HC7 _ hb7
        have hz7 := hb7.size
        have hne7 : w.heap.size ≠ w7.heap.size := by omega
        have hlt7 : w.heap.size < w7.heap.size := by omega
        obtain ⟨v8, w8, hrun, hown8, hgr8, _⟩ := run_append_own (P := Tryd.prog) (w7.alloc (.cells #[.int .i64 kd, .int .i64 nm] 33)) (W0.heap.size + 2) 22 22 33 i0 (.agg #[.int .i64 0, .int .i64 0]) 2 16 Tryd.underlying22 hi0 hz1 hz2 hz3 rfl (by decide) v k xs (r7.alloc _) ⟨w7.heap.size, 0, none⟩ 1 1 [.int .i64 kd, .int .i64 nm] rfl (ow_cells_new w7 #[.int .i64 kd, .int .i64 nm] _) (by simp [Value.oneCell']) (by unfold maxLen; omega) (by omega) (by simp; omega)
        obtain ⟨g8, cap8, rfl⟩ := ownsRow_succ hown8
        obtain ⟨hN1, hN2, hN3, hN4⟩ := HN.out w7 w8 _ _ hb7 hgr8 hown8
        have c8 : w8.cell? ⟨w.heap.size, 0, none⟩ = some v := by rw [cell_of_row _ _ _ _ _ _ hN4]; rfl
        have f8 : w8.frozen? ⟨w.heap.size, 0, none⟩ = false := by unfold World.frozen?; rw [hN4]; simp
        refine hK _ _ ?_
        clear hK K
        refine wpAnyIn_ready (rs := [3]) (by kernel_rfl) (by simp) ?_
        refine AllReadyIn.cons rfl (fun K hK => ?_) AllReadyIn.nil
        go_simp
        refine hK _ _ ?_
        clear hK K
        refine wpAnyIn_ready (rs := [4]) (by kernel_rfl) (by simp) ?_
        refine AllReadyIn.cons rfl (fun K hK => ?_) AllReadyIn.nil
        rw [if_pos (by rfl)]
        refine op_append_in rfl rfl rfl hrun ?_
        refine hK _ _ ?_
        clear hK K
        refine wpAnyIn_ready (rs := [5]) (by kernel_rfl) (by simp) ?_
        refine AllReadyIn.cons rfl (fun K hK => ?_) AllReadyIn.nil
        go_simp
        refine hK _ _ ?_
        clear hK K
        refine wpAnyIn_done (by kernel_rfl) ?_ _
        exact ⟨rfl, hN1, hN2, hN3 _ (by omega) (by omega), hN3 _ (by omega) (by omega), hN3 _ (by omega) (by omega)⟩
      · go_simp
        refine hK _ _ ?_
        clear hK K
        refine wpAnyIn_ready (rs := [0, 2]) (by kernel_rfl) (by simp) ?_
        refine AllReadyIn.cons rfl (fun K hK => ?_) (AllReadyIn.cons rfl (fun K hK => ?_) AllReadyIn.nil)
        · go_simp
          refine hK _ _ ?_
          clear hK K
          refine wpAnyIn_ready (rs := [2]) (by kernel_rfl) (by simp) ?_
          refine AllReadyIn.cons rfl (fun K hK => ?_) AllReadyIn.nil
          go_simp
          refine ⟨trivial, (CallsIn.inRound _ (callsIn_wide.2 (HL _ hd0))).mono ?_⟩
          rintro e w7 ⟨rfl, hb7⟩
          obtain ⟨c7, f7, r7⟩ := HC7 _ hb7
          have hz7 := hb7.size
          have hne7 : w.heap.size ≠ w7.heap.size := by omega
          have hlt7 : w.heap.size < w7.heap.size := by omega
          obtain ⟨v8, w8, hrun, hown8, hgr8, _⟩ := run_append_own (P := Tryd.prog) (w7.alloc (.cells #[.int .i64 kd, .int .i64 nm] 33)) (W0.heap.size + 2) 22 22 33 i0 (.agg #[.int .i64 0, .int .i64 0]) 2 16 Tryd.underlying22 hi0 hz1 hz2 hz3 rfl (by decide) v k xs (r7.alloc _) ⟨w7.heap.size, 0, none⟩ 1 1 [.int .i64 kd, .int .i64 nm] rfl (ow_cells_new w7 #[.int .i64 kd, .int .i64 nm] _) (by simp [Value.oneCell']) (by unfold maxLen; omega) (by omega) (by simp; omega)
          obtain ⟨g8, cap8, rfl⟩ := ownsRow_succ hown8
          obtain ⟨hN1, hN2, hN3, hN4⟩ := HN.out w7 w8 _ _ hb7 hgr8 hown8
          have c8 : w8.cell? ⟨w.heap.size, 0, none⟩ = some v := by rw [cell_of_row _ _ _ _ _ _ hN4]; rfl
          have f8 : w8.frozen? ⟨w.heap.size, 0, none⟩ = false := by unfold World.frozen?; rw [hN4]; simp
          refine hK _ _ ?_
          clear hK K
          refine wpAnyIn_ready (rs := [3]) (by kernel_rfl) (by simp) ?_
          refine AllReadyIn.cons rfl (fun K hK => ?_) AllReadyIn.nil
          go_simp
          refine hK _ _ ?_
          clear hK K
          refine wpAnyIn_ready (rs := [4]) (by kernel_rfl) (by simp) ?_
          refine AllReadyIn.cons rfl (fun K hK => ?_) AllReadyIn.nil
          rw [if_pos (by rfl)]
          refine op_append_in rfl rfl rfl hrun ?_
          refine hK _ _ ?_
          clear hK K
          refine wpAnyIn_ready (rs := [5]) (by kernel_rfl) (by simp) ?_
          refine AllReadyIn.cons rfl (fun K hK => ?_) AllReadyIn.nil
          go_simp
          refine hK _ _ ?_
          clear hK K
          refine wpAnyIn_done (by kernel_rfl) ?_ _
          exact ⟨rfl, hN1, hN2, hN3 _ (by omega) (by omega), hN3 _ (by omega) (by omega), hN3 _ (by omega) (by omega)⟩
        · go_simp
          refine ⟨trivial, (CallsIn.inRound _ (callsIn_wide.2 (HL _ hd0))).mono ?_⟩
          rintro e w7 ⟨rfl, hb7⟩
          obtain ⟨c7, f7, r7⟩ := HC7 _ hb7
          have hz7 := hb7.size
          have hne7 : w.heap.size ≠ w7.heap.size := by omega
          have hlt7 : w.heap.size < w7.heap.size := by omega
          obtain ⟨v8, w8, hrun, hown8, hgr8, _⟩ := run_append_own (P := Tryd.prog) (w7.alloc (.cells #[.int .i64 kd, .int .i64 nm] 33)) (W0.heap.size + 2) 22 22 33 i0 (.agg #[.int .i64 0, .int .i64 0]) 2 16 Tryd.underlying22 hi0 hz1 hz2 hz3 rfl (by decide) v k xs (r7.alloc _) ⟨w7.heap.size, 0, none⟩ 1 1 [.int .i64 kd, .int .i64 nm] rfl (ow_cells_new w7 #[.int .i64 kd, .int .i64 nm] _) (by simp [Value.oneCell']) (by unfold maxLen; omega) (by omega) (by simp; omega)
          obtain ⟨g8, cap8, rfl⟩ := ownsRow_succ hown8
          obtain ⟨hN1, hN2, hN3, hN4⟩ := HN.out w7 w8 _ _ hb7 hgr8 hown8
          have c8 : w8.cell? ⟨w.heap.size, 0, none⟩ = some v := by rw [cell_of_row _ _ _ _ _ _ hN4]; rfl
          have f8 : w8.frozen? ⟨w.heap.size, 0, none⟩ = false := by unfold World.frozen?; rw [hN4]; simp
          refine hK _ _ ?_
          clear hK K
          refine wpAnyIn_ready (rs := [0, 3]) (by kernel_rfl) (by simp) ?_
          refine AllReadyIn.cons rfl (fun K hK => ?_) (AllReadyIn.cons rfl (fun K hK => ?_) AllReadyIn.nil)
          · go_simp
            refine hK _ _ ?_
            clear hK K
            refine wpAnyIn_ready (rs := [3]) (by kernel_rfl) (by simp) ?_
            refine AllReadyIn.cons rfl (fun K hK => ?_) AllReadyIn.nil
            go_simp
            refine hK _ _ ?_
            clear hK K
            refine wpAnyIn_ready (rs := [4]) (by kernel_rfl) (by simp) ?_
            refine AllReadyIn.cons rfl (fun K hK => ?_) AllReadyIn.nil
            rw [if_pos (by rfl)]
            refine op_append_in rfl rfl rfl hrun ?_
            refine hK _ _ ?_
            clear hK K
            refine wpAnyIn_ready (rs := [5]) (by kernel_rfl) (by simp) ?_
            refine AllReadyIn.cons rfl (fun K hK => ?_) AllReadyIn.nil
            go_simp
            refine hK _ _ ?_
            clear hK K
            refine wpAnyIn_done (by kernel_rfl) ?_ _
            exact ⟨rfl, hN1, hN2, hN3 _ (by omega) (by omega), hN3 _ (by omega) (by omega), hN3 _ (by omega) (by omega)⟩
          · go_simp
            refine hK _ _ ?_
            clear hK K
            refine wpAnyIn_ready (rs := [0]) (by kernel_rfl) (by simp) ?_
            refine AllReadyIn.cons rfl (fun K hK => ?_) AllReadyIn.nil
            go_simp
            refine hK _ _ ?_
            clear hK K
            refine wpAnyIn_ready (rs := [4]) (by kernel_rfl) (by simp) ?_
            refine AllReadyIn.cons rfl (fun K hK => ?_) AllReadyIn.nil
            rw [if_pos (by rfl)]
            refine op_append_in rfl rfl rfl hrun ?_
            refine hK _ _ ?_
            clear hK K
            refine wpAnyIn_ready (rs := [5]) (by kernel_rfl) (by simp) ?_
            refine AllReadyIn.cons rfl (fun K hK => ?_) AllReadyIn.nil
            go_simp
            refine hK _ _ ?_
            clear hK K
            refine wpAnyIn_done (by kernel_rfl) ?_ _
            exact ⟨rfl, hN1, hN2, hN3 _ (by omega) (by omega), hN3 _ (by omega) (by omega), hN3 _ (by omega) (by omega)⟩
    case done =>
      intro W hi hW hD
      obtain ⟨⟨v, hv, hrow⟩, hbW⟩ := hi
      have c0 : W.cell? ⟨w.heap.size, 0, none⟩ = some v := by rw [cell_of_row _ _ _ _ _ _ hv]; rfl
      have hwW := hbW.size
      have hkc := lns_le l
      have hrW : Words W (· < W.heap.size) (opsL l (cntL l)) v := words_of_own (by rw [opsL_length]; exact hrow)
      have hOk := impl_CodeOk (opsL l (cntL l)) (by rw [opsL_length]; omega) W v hrW
      cases hM : codeM (opsL l (cntL l)) with
      | false =>
        rw [hM] at hOk
        have hg : getM l = none := if_neg (fun h => by rw [hM] at h; cases h.2.1)
        obtain rfl : G = none := HG.out.symm.trans hg
        go_wp2_with (go_at_call 18; refine hOk.mono ?_; rintro r w4 ⟨rfl, hb4⟩)
        have hD4 : w4.heap[w.heap.size + 2]? = some (.deferred (some [])) := by rw [← hz0]; exact (hb4.block _ (by omega)).trans hD
        refine ⟨by simp, .inl ⟨_, _, rfl, run_takeDeferred hD4, ?_⟩⟩
        exact ⟨_, results_tmp2 rfl _ _ _, rfl, below_put (hbW.trans (hb4.mono hwW)) (by omega) _⟩
      | true =>
        rw [hM] at hOk
        obtain ⟨h200, hfine⟩ := codeM_fine hM
        have hTx := fun w' (hb : Below W.heap.size W w') => impl_codeText (opsL l (cntL l)) h200 hfine w' v (hrW.keep hb hb.size) (hT.keep (hbW.trans (hb.mono hwW))) (hC.keep (hbW.trans (hb.mono hwW)))
        have HC4 : ∀ w', Below W.heap.size W w' → w'.cell? ⟨w.heap.size, 0, none⟩ = some v := fun w' hb => (World.cell?_of_block (a := ⟨w.heap.size, 0, none⟩) (hb.block w.heap.size (by omega))).trans c0
        have HR4 : Hid (∀ w', Below W.heap.size W w' → w'.ownsRow w.heap.size 33 2 v (opsL l (cntL l)).length ((opsL l (cntL l)).flatMap Wd.cells)) := fun w' hb => by
          rw [opsL_length]
          exact ow_base (ow_keep hrow hb) (by omega)
        by_cases he : codeT (opsL l (cntL l)) = l
        · have hg : getM l = some (opsL l (cntL l)) := if_pos ⟨by omega, hM, he⟩
          obtain rfl : G = some (opsL l (cntL l)) := HG.out.symm.trans hg
          have hq : ((bx (codeT (opsL l (cntL l)))).toList == t.toList) = true := by rw [he, HT.out]; simp
          clear hg he hM hrow hrW hfine
          generalize bx (codeT (opsL l (cntL l))) = tc at hq hTx
          go_wp2_with (first
            | (go_at_call 18; refine hOk.mono ?_; rintro r w4 ⟨rfl, hb4⟩; have c4 := HC4 _ hb4)
            | (go_at_call 19; refine (hTx _ hb4).mono ?_; rintro r w5 ⟨rfl, hb5⟩; have hb45 := cw_next hb4 hb5; have c5 := HC4 _ hb45))
          have hD5 : w5.heap[w.heap.size + 2]? = some (.deferred (some [])) := by rw [← hz0]; exact (hb45.block _ (by omega)).trans hD
          refine ⟨by simp, .inl ⟨_, _, rfl, run_takeDeferred hD5, ?_⟩⟩
          exact ⟨_, results_tmp2 rfl _ _ _, ⟨v, rfl, own_put (HR4.out _ hb45) hD5 _⟩, below_put (hbW.trans (hb45.mono hwW)) (by omega) _⟩
        · have hg : getM l = none := if_neg (fun h => he h.2.2)
          obtain rfl : G = none := HG.out.symm.trans hg
          have hq : ((bx (codeT (opsL l (cntL l)))).toList == t.toList) = false := by rw [HT.out, bx_toList, bx_toList]; simpa using he
          clear hg he hM hrow hrW hfine
          generalize bx (codeT (opsL l (cntL l))) = tc at hq hTx
          go_wp2_with (first
            | (go_at_call 18; refine hOk.mono ?_; rintro r w4 ⟨rfl, hb4⟩; have c4 := HC4 _ hb4)
            | (go_at_call 19; refine (hTx _ hb4).mono ?_; rintro r w5 ⟨rfl, hb5⟩; have hb45 := cw_next hb4 hb5; have c5 := HC4 _ hb45))
          have hD5 : w5.heap[w.heap.size + 2]? = some (.deferred (some [])) := by rw [← hz0]; exact (hb45.block _ (by omega)).trans hD
          refine ⟨by simp, .inl ⟨_, _, rfl, run_takeDeferred hD5, ?_⟩⟩
          exact ⟨_, results_tmp2 rfl _ _ _, rfl, below_put (hbW.trans (hb45.mono hwW)) (by omega) _⟩
end Go.Proofs.YtaagnifagahgfaaDoor

