/-
  The specification's l7Reach.
-/
import Derived.Test.YtndpioniobhbmaaHrSpec
import Derived.Test.YtndpioniobhbmaaMkInt
import Derived.Deep.RegionHeld3
namespace Go.Proofs.Ytndpioniobhbmaa
open Go.RowKit

theorem in0 (fr : List Ce) : inM (st0 fr []) = List.replicate fr.length false := by simp [inM, st0]
theorem rel0 (fr : List Ce) : RelT fr 0 (st0 fr []) [] := ⟨rfl, fun j hj => absurd hj (by simp)⟩

set_option maxRecDepth 100000 in
set_option maxHeartbeats 8000000 in
theorem spec_l7Reach (fr : List Ce) (ws : List Wd) (hf : fr.length ≤ 500) (hws : ws.length ≤ 1048576) (hwr : ∀ d ∈ ws, refOk fr.length d) (hfr : ∀ c ∈ fr, refOk fr.length c.a ∧ refOk fr.length c.b) (w : World) (vf vw : Value) (hvf : Cells w (· < w.heap.size) fr vf) (hvw : Words w (· < w.heap.size) ws vw) :
    Calls Try.prog 25 #[vf, vw] w fun r w' => InR w w' (copyS fr [] ws) r := by
  obtain ⟨i1, hi1, hiz1, his1, hib1⟩ := info_parts inInfo
  have hmk := make_bools fr.length (by omega)
  obtain ⟨fa, fcap, rfl⟩ := hvf.slice
  obtain ⟨a, cap, rfl⟩ := hvw.slice
  have hB0 := wl_two w (.cells (madeCells #[.bool false] fr.length) 4) (.cells #[] 3)
  have hR0 : Rch ((w.alloc (.cells (madeCells #[.bool false] fr.length) 4)).alloc (.cells #[] 3)) w.heap.size w.heap.size fr.length (st0 fr []) [] (.slice (some ⟨w.heap.size + 1, 0, none⟩) 0 0) := by
    refine ⟨?_, ?_, by simp [Value.ownBlock]⟩
    · rw [in0]; exact (made_bools w fr.length _ (Nat.le_refl _) (by omega)).alloc _
    · have := World.ownsRow_made (base := w.heap.size) (e := 3) (size := 1) (w.alloc (.cells (madeCells #[.bool false] fr.length) 4)) #[] 0 (by simp) (Nat.zero_le _) rfl
      simpa [natsV] using this
  go_enter Try.func25, Try.ntmps25
  go_upto_region 3 with fail
  generalize hWW : (w.alloc (.cells (madeCells #[.bool false] fr.length) 4)).alloc (.cells #[] 3) = W0 at *
  clear hWW
  go_wp2_with fail
  go_loopg [6, 7] ws.length (fun k v i wr => ∃ (j : Nat) (todo : List Nat), j + k = ws.length ∧ i = .int .i64 j ∧ Rch wr w.heap.size w.heap.size fr.length (wordsS fr (st0 fr []) (ws.take j)) todo v ∧ RelT fr 0 (wordsS fr (st0 fr []) (ws.take j)) todo ∧ Inv fr 0 0 (wordsS fr (st0 fr []) (ws.take j)) ∧ Below w.heap.size w wr)
  case atStart => exact ⟨0, [], by omega, rfl, hR0, rel0 fr, inv0 fr [], hB0⟩
  case round =>
    obtain ⟨j, todo, hjk, rfl, hR, hT, hI', hB⟩ := hrel
    have hzB := hB.size
    by_cases hlt : j < ws.length
    · obtain ⟨vb, off, hvB, rfl, hr⟩ := hvw.at j hlt
      obtain ⟨q0, q1⟩ := Wd.two (rw_same (hB.block vb hvB) hr)
      clear hr
      obtain ⟨hS, _⟩ := words_take fr (st0 fr []) ws j hlt
      have hd : refOk fr.length ws[j] := hwr _ (List.getElem_mem hlt)
      have hI2 := hI'.move hfr hd
      rw [← hS] at hI2
      have hji : (j : Int) < (ws.length : Int) := by omega
      generalize hsj : wordsS fr (st0 fr []) (ws.take j) = s' at *
      have hml : s'.mv.length = fr.length := hI'.len
      have htl := hI'.le
      have hgo : ∀ k, u6.ownBlock = some k → w.heap.size ≤ k := fun k hk => (hR.todo.lt k hk).1
      by_cases ht : ws[j].tag = 4
      · obtain ⟨h0, h1⟩ := hd ht
        obtain ⟨p, hp⟩ : ∃ p : Nat, ws[j].num = (p : Int) := ⟨ws[j].num.toNat, by omega⟩
        have hpf : p < fr.length := by omega
        have hpm : p < s'.mv.length := by omega
        have e1 : moveS fr s' ws[j] = comeS fr s' p := by rw [moveS, if_pos ht, hp]; rfl
        obtain ⟨f1, f2⟩ := come_eqs fr s' p hpm hpf
        rw [ht] at q0
        rw [hp] at q1
        have hpi : (p : Int) < (fr.length : Int) := by omega
        obtain ⟨c0, cf, hil⟩ := hR.cell hpm
        by_cases hn : s'.mv[p] < 0
        · obtain ⟨g1, _⟩ := f1 hn
          rw [e1, g1] at hS
          rw [decide_eq_false (by omega : ¬ 0 ≤ s'.mv[p])] at c0
          obtain ⟨r1, r2⟩ := come_rel hT hpf hpm
          have hgd : fr.getD p ce0 = fr[p] := getD_eq _ _ _ hpf
          have hO : ((wr.setCell ⟨w.heap.size, p, none⟩ (.bool true)).alloc (.cells #[.int .i64 (p : Int)] 3)).ownsRow w.heap.size 3 1 u6 todo.length (natsV todo) := (hR.todo.kept (ow_but_set wr w.heap.size p _) (Or.inr hR.apart)).alloc _
          have hzz : (wr.setCell ⟨w.heap.size, p, none⟩ (.bool true)).heap.size = wr.heap.size := by simp [World.setCell]
          have hlen2 : todo.length ≤ s'.to.length := Nat.le_of_eq hT.len
          clear ht hp e1 f1 f2 h0 h1 hn g1 hd
          go_wp2_with (at_builtin; refine wpList_append_lies _ rfl _ _ 25 rfl w.heap.size 3 i1 (.int .i64 0) 1 8 Try.underlying25 hi1 hiz1 his1 hib1 rfl (by decide) u6 todo.length (natsV todo) (by rfl) hO ⟨wr.heap.size, 0, none⟩ 1 1 [.int .i64 (p : Int)] (by first | rfl | simp [hzz]) rfl (by have := ow_cells_new (wr.setCell ⟨w.heap.size, p, none⟩ (.bool true)) #[.int .i64 (p : Int)] 3; rw [hzz] at this; exact this) (fun u hu => by simp at hu; subst hu; rfl) (by omega) (by unfold maxLen; omega) (by omega) (by first | (simp [hzz]; omega) | (simp; omega) | omega) (wr.heap.size + 1) (by first | simp [hzz] | (rw [World.heap_size_alloc, hzz])) ?_; intro t8 cap8 w8 hO8 hG8 hor8 hlt8)
          have hor9 : (Value.slice (some ⟨t8, 0, none⟩) (todo.length + 1) cap8).ownBlock = u6.ownBlock ∨ (Value.slice (some ⟨t8, 0, none⟩) (todo.length + 1) cap8).ownBlock = some (wr.heap.size + 1) := by
            rcases hor8 with e | e
            · exact Or.inl e.symm
            · exact Or.inr (by rw [e]; rfl)
          obtain ⟨hR8, hB8⟩ := Rch.next (fr := fr) (p := p) hR (by omega) (by rw [hgd]; exact r2) hO8 hG8 hor9
          rw [hgd, ← hS] at hR8
          rw [← hS] at r1
          go_roundg (ws.length - (j + 1))
          case measure => omega
          case rel => exact ⟨j + 1, todo ++ [p], by omega, by go_num, hR8, r1, hI2, hB.trans hB8⟩
        · obtain ⟨g1, _⟩ := f2 hn
          rw [e1, g1] at hS
          rw [decide_eq_true (by omega : 0 ≤ s'.mv[p])] at c0
          have hR2 := hR
          have hT2 := hT
          rw [← hS] at hR2 hT2
          clear ht hp e1 f1 f2 h0 h1 hn g1 hd
          go_wp2_with fail
          go_roundg (ws.length - (j + 1))
          case measure => omega
          case rel => exact ⟨j + 1, todo, by omega, by go_num, hR2, hT2, hI2, hB⟩
      · have e1 : moveS fr s' ws[j] = s' := by rw [moveS, if_neg ht]
        have ht' : (ws[j].tag == 4) = false := by simpa using ht
        rw [e1] at hS
        have hR2 := hR
        have hT2 := hT
        rw [← hS] at hR2 hT2
        clear ht e1 hd
        go_wp2_with fail
        go_roundg (ws.length - (j + 1))
        case measure => omega
        case rel => exact ⟨j + 1, todo, by omega, by go_num, hR2, hT2, hI2, hB⟩
    · obtain rfl : j = ws.length := by omega
      rw [List.take_length] at hR hT hI'
      have hji : ¬ (ws.length : Int) < (ws.length : Int) := by omega
      have HC : Hid (copyS fr [] ws = loopS fr (fr.length + 1) (wordsS fr (st0 fr []) ws) 0) := rfl
      generalize wordsS fr (st0 fr []) ws = sW at *
      clear hR0 hB0
      go_wp2_with fail
      go_loopg [6, 8] (fr.length + 1) (fun k v i wr => ∃ (j : Nat) (s : St) (todo : List Nat), i = .int .i64 j ∧ j + k = fr.length + 1 ∧ Hid (copyS fr [] ws = loopS fr k s j) ∧ Inv fr 0 j s ∧ RelT fr j s todo ∧ Rch wr w.heap.size w.heap.size fr.length s todo v ∧ Below w.heap.size w wr)
      case atStart => exact ⟨0, sW, todo, rfl, by omega, HC, hI', hT, hR, hB⟩
      case round =>
        clear hI' hT hR hB HC hzB hji
        obtain ⟨i, s, todo, rfl, hjk, HL, hI', hT, hR, hB⟩ := hrel
        have hzB := hB.size
        have hle := hI'.le
        have hlen1 : todo.length ≤ s.to.length := Nat.le_of_eq hT.len
        have hlen2 : s.to.length ≤ todo.length := Nat.le_of_eq hT.len.symm
        obtain ⟨ta, tcap, rfl, htc⟩ := own_at hR.todo
        by_cases hlt : i < todo.length
        · obtain ⟨tb, rfl, hc⟩ := htc i (by rw [natsV_length]; exact hlt)
          obtain ⟨hpf, hpt⟩ := hT.at' i hlt (Nat.le_refl _)
          rw [show (natsV todo)[i]'(by rw [natsV_length]; exact hlt) = .int .i64 (todo[i] : Int) by simp [natsV]] at hc
          have hil : i < s.to.length := by omega
          rw [List.getElem?_eq_getElem hil, List.getElem?_eq_getElem hpf] at hpt
          have hpc : s.to[i] = fr[todo[i]] := Option.some.inj hpt
          obtain ⟨fb, off, hfB, rfl, hr⟩ := hvf.at todo[i] hpf
          obtain ⟨q0, q1, q2, q3, q4, q5⟩ := Ce.six (rw_same (hB.block fb hfB) hr)
          obtain ⟨hA, hB'⟩ := hfr _ (List.getElem_mem hpf)
          have hI2 := hI'.step hfr hil
          have HE := stepS_eq fr s i hil
          rw [hpc] at HE
          rw [HE] at hI2
          have HN : Hid (loopS fr gk s i = loopS fr (gk - 1) ⟨(moveS fr (moveS fr s fr[todo[i]].a) fr[todo[i]].b).to.set i (cellM fr s fr[todo[i]]), (moveS fr (moveS fr s fr[todo[i]].a) fr[todo[i]].b).mv⟩ (i + 1)) := by
            show _ = _
            obtain ⟨m, rfl⟩ : ∃ m, gk = m + 1 := ⟨gk - 1, by omega⟩
            rw [loopS_step hil, HE]
            rfl
          clear HE hpt hpc hr
          have hpi : (todo[i] : Int) < (fr.length : Int) := by omega
          have hp0 : (0 : Int) ≤ (todo[i] : Int) := by omega
          generalize cellM fr s fr[todo[i]] = c2 at *
          generalize fr[todo[i]] = c at *
          generalize todo[i] = p at *
          have hii : (i : Int) < (todo.length : Int) := by omega
          have hi0 : (0 : Int) ≤ (i : Int) := by omega
          have htbl := World.block_lt_of_cell? wr _ hc
          have hfbl : fb < w.heap.size := hfB
          go_upto_region 12 with fail
          go_region_held3 (fun w' => w'.cell? ⟨tb, i, none⟩ = some (.int .i64 (p : Int)) ∧ w'.cell? ⟨fb, off + p * 6 + 2, none⟩ = some (.int .i64 c.a.tag) ∧ w'.cell? ⟨fb, off + p * 6 + 3, none⟩ = some (.int .i64 c.a.num) ∧ w'.cell? ⟨fb, off + p * 6 + 4, none⟩ = some (.int .i64 c.b.tag) ∧ w'.cell? ⟨fb, off + p * 6 + 5, none⟩ = some (.int .i64 c.b.num)) (first | go_keep | exact ⟨hc, q2, q3, q4, q5⟩) (fail)
          have hbN : Below wr.heap.size wr ((wr.alloc (.cells #[.int .i64 c.a.tag, .int .i64 c.a.num, .int .i64 c.b.tag, .int .i64 c.b.num] 31)).drew) := (below_new wr _).drew
          have hR1 := hR.keep hbN
          have hB1 := hc_next hB hbN
          have htw : ((wr.alloc (.cells #[.int .i64 c.a.tag, .int .i64 c.a.num, .int .i64 c.b.tag, .int .i64 c.b.num] 31)).drew).heap[wr.heap.size]? = some (.cells #[.int .i64 c.a.tag, .int .i64 c.a.num, .int .i64 c.b.tag, .int .i64 c.b.num] 31) := heap_alloc_new wr _
          have htw1 : wr.heap.size < ((wr.alloc (.cells #[.int .i64 c.a.tag, .int .i64 c.a.num, .int .i64 c.b.tag, .int .i64 c.b.num] 31)).drew).heap.size := by show wr.heap.size < (wr.alloc _).heap.size; simp
          have htv : (Value.slice (some ⟨tb, 0, none⟩) todo.length tcap).ownBlock ≠ some wr.heap.size := fun e => by have := (hR.todo.lt _ e).2; omega
          have htw0 : w.heap.size < wr.heap.size := (hR.ins.lt w.heap.size rfl).2
          have hcab : ∀ d ∈ [c.a, c.b], refOk fr.length d := fun d hd => by
            simp only [List.mem_cons, List.not_mem_nil, or_false] at hd
            rcases hd with rfl | rfl
            · exact hA
            · exact hB'
          obtain ⟨go, hgo2⟩ : ∃ x, x = gk := ⟨gk, rfl⟩
          have hgo3 : 1 ≤ go := by omega
          have hgo4 : i + go = fr.length + 1 := by omega
          have HM : Hid (wordsS fr s [c.a, c.b] = moveS fr (moveS fr s c.a) c.b) := rfl
          generalize moveS fr (moveS fr s c.a) c.b = s2 at *
          clear hR hB hc q0 q1 q2 q3 q4 q5 hA hB' htc hle
          generalize wr.heap.size = tw at *
          generalize (wr.alloc (.cells #[.int .i64 c.a.tag, .int .i64 c.a.num, .int .i64 c.b.tag, .int .i64 c.b.num] 31)).drew = W1 at *
          go_wp2_with fail
          go_loopg [6, 10] 2 (fun k v m wr => ∃ (j : Nat) (todo : List Nat), j + k = 2 ∧ m = .int .i64 j ∧ Rch wr w.heap.size w.heap.size fr.length (wordsS fr s ([c.a, c.b].take j)) todo v ∧ RelT fr i (wordsS fr s ([c.a, c.b].take j)) todo ∧ Inv fr 0 i (wordsS fr s ([c.a, c.b].take j)) ∧ Below w.heap.size w wr ∧ wr.heap[tw]? = some (.cells #[.int .i64 c.a.tag, .int .i64 c.a.num, .int .i64 c.b.tag, .int .i64 c.b.num] 31) ∧ v.ownBlock ≠ some tw ∧ tw < wr.heap.size)
          case atStart => exact ⟨0, todo, by omega, rfl, hR1, hT, hI', hB1, htw, htv, htw1⟩
          case round =>
            clear hR1 hT hI' hB1 htw htv htw1 hlen1 hlen2 hii hlt hil htbl
            obtain ⟨j, todo, hjk, rfl, hR, hT, hI', hB, htw, htv, htl2⟩ := hrel
            have hzB := hB.size
            by_cases hlt : j < [c.a, c.b].length
            · obtain ⟨q0, q1⟩ : wr.cell? ⟨tw, j * 2, none⟩ = some (.int .i64 [c.a, c.b][j].tag) ∧ wr.cell? ⟨tw, j * 2 + 1, none⟩ = some (.int .i64 [c.a, c.b][j].num) := by
                have hj2 : j < 2 := hlt
                rw [cell_of_row _ _ _ _ _ _ htw, cell_of_row _ _ _ _ _ _ htw]
                match j, hj2, hlt with
                | 0, _, _ => exact ⟨rfl, rfl⟩
                | 1, _, _ => exact ⟨rfl, rfl⟩
              have hj2 : j < 2 := hlt
              obtain ⟨hS, _⟩ := words_take fr s [c.a, c.b] j hlt
              have hd : refOk fr.length [c.a, c.b][j] := hcab _ (List.getElem_mem hlt)
              have hI2 := hI'.move hfr hd
              rw [← hS] at hI2
              have hji : (j : Int) < (2 : Int) := by omega
              generalize hsj : wordsS fr s ([c.a, c.b].take j) = s' at *
              have hml : s'.mv.length = fr.length := hI'.len
              have htl := hI'.le
              have hgo : ∀ k, u6.ownBlock = some k → w.heap.size ≤ k := fun k hk => (hR.todo.lt k hk).1
              by_cases ht : [c.a, c.b][j].tag = 4
              · obtain ⟨h0, h1⟩ := hd ht
                obtain ⟨p, hp⟩ : ∃ p : Nat, [c.a, c.b][j].num = (p : Int) := ⟨[c.a, c.b][j].num.toNat, by omega⟩
                have hpf : p < fr.length := by omega
                have hpm : p < s'.mv.length := by omega
                have e1 : moveS fr s' [c.a, c.b][j] = comeS fr s' p := by rw [moveS, if_pos ht, hp]; rfl
                obtain ⟨f1, f2⟩ := come_eqs fr s' p hpm hpf
                rw [ht] at q0
                rw [hp] at q1
                have hpi : (p : Int) < (fr.length : Int) := by omega
                obtain ⟨c0, cf, hil⟩ := hR.cell hpm
                by_cases hn : s'.mv[p] < 0
                · obtain ⟨g1, _⟩ := f1 hn
                  rw [e1, g1] at hS
                  rw [decide_eq_false (by omega : ¬ 0 ≤ s'.mv[p])] at c0
                  obtain ⟨r1, r2⟩ := come_rel hT hpf hpm
                  have hgd : fr.getD p ce0 = fr[p] := getD_eq _ _ _ hpf
                  have hO : ((wr.setCell ⟨w.heap.size, p, none⟩ (.bool true)).alloc (.cells #[.int .i64 (p : Int)] 3)).ownsRow w.heap.size 3 1 u6 todo.length (natsV todo) := (hR.todo.kept (ow_but_set wr w.heap.size p _) (Or.inr hR.apart)).alloc _
                  have hzz : (wr.setCell ⟨w.heap.size, p, none⟩ (.bool true)).heap.size = wr.heap.size := by simp [World.setCell]
                  have hlen2 : todo.length ≤ s'.to.length := Nat.le_of_eq hT.len
                  clear ht hp e1 f1 f2 h0 h1 hn g1 hd
                  go_wp2_with (at_builtin; refine wpList_append_lies _ rfl _ _ 25 rfl w.heap.size 3 i1 (.int .i64 0) 1 8 Try.underlying25 hi1 hiz1 his1 hib1 rfl (by decide) u6 todo.length (natsV todo) (by rfl) hO ⟨wr.heap.size, 0, none⟩ 1 1 [.int .i64 (p : Int)] (by first | rfl | simp [hzz]) rfl (by have := ow_cells_new (wr.setCell ⟨w.heap.size, p, none⟩ (.bool true)) #[.int .i64 (p : Int)] 3; rw [hzz] at this; exact this) (fun u hu => by simp at hu; subst hu; rfl) (by omega) (by unfold maxLen; omega) (by omega) (by first | (simp [hzz]; omega) | (simp; omega) | omega) (wr.heap.size + 1) (by first | simp [hzz] | (rw [World.heap_size_alloc, hzz])) ?_; intro t8 cap8 w8 hO8 hG8 hor8 hlt8)
                  have hor9 : (Value.slice (some ⟨t8, 0, none⟩) (todo.length + 1) cap8).ownBlock = u6.ownBlock ∨ (Value.slice (some ⟨t8, 0, none⟩) (todo.length + 1) cap8).ownBlock = some (wr.heap.size + 1) := by
                    rcases hor8 with e | e
                    · exact Or.inl e.symm
                    · exact Or.inr (by rw [e]; rfl)
                  obtain ⟨hR8, hB8⟩ := Rch.next (fr := fr) (p := p) hR (by omega) (by rw [hgd]; exact r2) hO8 hG8 hor9
                  rw [hgd, ← hS] at hR8
                  rw [← hS] at r1
                  have htw8 : w8.heap[tw]? = wr.heap[tw]? := by
                    rw [hG8.block tw (by simp [hzz]; omega) (fun e => htv (by rw [← e])), Below.heap_alloc _ _ _ (by rw [hzz]; omega)]
                    exact Below.heap_setCell _ _ _ _ (by show tw ≠ w.heap.size; omega)
                  have htv8 : (Value.slice (some ⟨t8, 0, none⟩) (todo.length + 1) cap8).ownBlock ≠ some tw := by
                    rcases hor8 with e | e
                    · exact fun e2 => htv (by rw [e, ← e2]; rfl)
                    · rw [e]; simp [Value.ownBlock]; omega
                  go_roundg (2 - (j + 1))
                  case measure => omega
                  case rel => exact ⟨j + 1, todo ++ [p], by omega, by go_num, hR8, r1, hI2, hB.trans hB8, htw8.trans htw, htv8, by have := hB8.size; omega⟩
                · obtain ⟨g1, _⟩ := f2 hn
                  rw [e1, g1] at hS
                  rw [decide_eq_true (by omega : 0 ≤ s'.mv[p])] at c0
                  have hR2 := hR
                  have hT2 := hT
                  rw [← hS] at hR2 hT2
                  clear ht hp e1 f1 f2 h0 h1 hn g1 hd
                  go_wp2_with fail
                  go_roundg (2 - (j + 1))
                  case measure => omega
                  case rel => exact ⟨j + 1, todo, by omega, by go_num, hR2, hT2, hI2, hB, htw, htv, htl2⟩
              · have e1 : moveS fr s' [c.a, c.b][j] = s' := by rw [moveS, if_neg ht]
                have ht' : ([c.a, c.b][j].tag == 4) = false := by simpa using ht
                rw [e1] at hS
                have hR2 := hR
                have hT2 := hT
                rw [← hS] at hR2 hT2
                clear ht e1 hd
                go_wp2_with fail
                go_roundg (2 - (j + 1))
                case measure => omega
                case rel => exact ⟨j + 1, todo, by omega, by go_num, hR2, hT2, hI2, hB, htw, htv, htl2⟩
            · obtain rfl : j = 2 := by simp at hlt; omega
              rw [show [c.a, c.b].take 2 = [c.a, c.b] from rfl, HM.out] at hR hT hI'
              have hR2 : Rch wr w.heap.size w.heap.size fr.length ⟨s2.to.set i c2, s2.mv⟩ todo _ := ⟨hR.ins, hR.todo, hR.apart⟩
              go_wp2_with fail
              go_roundg (go - 1)
              case measure => omega
              case rel => exact ⟨i + 1, ⟨s2.to.set i c2, s2.mv⟩, todo, by go_num, by omega, by rw [hgo2]; exact HL.out.trans HN.out, hI2, step_rel hT, hR2, hB⟩
        · have he : loopS fr gk s i = s := loopS_end (by omega)
          have HE : Hid (copyS fr [] ws = s) := HL.out.trans he
          have hii : ¬ (i : Int) < (todo.length : Int) := by omega
          go_wp2_with fail
          go_ret
          have hfin : wr.ownsRow w.heap.size 4 1 (.slice (some ⟨w.heap.size, 0, none⟩) fr.length fr.length) (inM (copyS fr [] ws)).length (boolsV (inM (copyS fr [] ws))) := by rw [HE.out, inM_length, hI'.len]; exact hR.ins
          exact ⟨_, rfl, hfin, hB⟩
end Go.Proofs.Ytndpioniobhbmaa
