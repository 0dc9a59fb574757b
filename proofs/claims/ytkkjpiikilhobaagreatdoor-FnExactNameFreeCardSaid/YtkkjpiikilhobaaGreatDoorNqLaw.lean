/-
  The law FnExactNameFree: it answers true, whatever the expression.
-/
import Derived.Test.YtkkjpiikilhobaaGreatDoorNqName
import Derived.Test.YtkkjpiikilhobaaGreatDoorNqStr
import Derived.Test.YtkkjpiikilhobaaGreatDoorNtTo
import Derived.Deep.Cut
namespace Go.Proofs.YtkkjpiikilhobaaGreatDoor
open Go.RowKit

theorem own_env {w : World} {B : Nat} {l : List ByteArray} {v : Value} (h : w.ownsRow B 9 1 v l.length (l.map .string)) : Env w l v := App.base (Or.inl h) (Nat.zero_le _)
theorem own_within {w w' : World} {B lo hi n : Nat} {e : TypeId} {v : Value} {xs : List Value} (h : w.ownsRow B e 1 v n xs) (hW : Within lo hi w w') (hB : hi ≤ B) : w'.ownsRow B e 1 v n xs := by
  obtain ⟨h1, h2⟩ := h
  refine ⟨h1, ?_⟩
  rcases h2 with h2 | ⟨g, cap, cur, hv, hg, hh, r⟩
  · exact Or.inl h2
  · exact Or.inr ⟨g, cap, cur, hv, hg, by rw [hW.block g (Array.getElem?_eq_some_iff.1 hh).1 (Or.inr (by omega))]; exact hh, r⟩
theorem below_within {w w1 w2 : World} {B lo hi : Nat} (h : Below B w w1) (hW : Within lo hi w1 w2) (hB : B ≤ lo) (hlo : lo ≤ w1.heap.size) : Below B w w2 := h.trans ((hW.below hlo).mono hB)
theorem below_owned {w w1 w2 : World} {B C n : Nat} {e : TypeId} {v : Value} {xs : List Value} (h : Below B w w1) (hO : w1.ownsRow C e 1 v n xs) (hG : w1.grownBy w2 v.ownBlock) (hB : B ≤ C) (hz : B ≤ w1.heap.size) : Below B w w2 :=
  h.trans ⟨hG.os, hG.tape, hG.output, hG.size, fun k hk => hG.block k (by omega) (fun he => by have := (hO.lt k he.symm).1; omega)⟩

set_option maxRecDepth 100000 in
set_option maxHeartbeats 4000000 in
theorem law_NameFree (e : Ex) (hf : e.Fit) (w : World) (s : Value) (hv : Lies w (· < w.heap.size) e.kids s) (hT : Tab w) :
    Calls Tryz.prog 3 #[e.val s] w fun r w' => r = .returned (.bool true) ∧ Below w.heap.size w w' := by
  have hfl := freeB_length e
  go_enter Tryz.func3, Tryz.ntmps3
  go_upto_region 5 with (go_at_call 4; refine (szC e hf _ _ _ (lies_alloc hv _) (by omega) (by omega)).mono ?_; rintro r w2 ⟨⟨n, rfl, hn, hw⟩, hb2⟩; have hwee : Hid (0 ≤ n → e.Wee ∧ (cntAll e.kids : Int) + n ≤ 1048576) := hw; clear hw; have hB2 := box_start hb2; clear hb2)
  · go_ret
    exact ⟨rfl, below_of_box hB2⟩
  have hwe := (hwee.out (by omega)).1
  have hcnt : cntAll e.kids ≤ 1048576 := by have := (hwee.out (by omega)).2; omega
  clear hwee
  obtain ⟨l, hl⟩ : ∃ l, l = freeB e := ⟨_, rfl⟩
  have hspec := spec_NameFree e hf hwe
  have himpl := impl_NameFree e hf hwe
  rw [← hl] at hspec himpl hfl
  clear hl
  obtain ⟨p0, p1, p2, p3, p4⟩ := box5 hB2
  go_upto_region 6 with (first
    | (go_at_call 6; refine (to e hwe _ _ (lies_box hv hB2)).mono ?_; rintro r w3 ⟨s3, rfl, hl3, hb3⟩; have hB3 := below_box_trans hB2 hb3)
    | (go_at_call 5; refine (hspec _ _ (lies_lt hl3)).mono ?_; rintro r w4 ⟨v4, rfl, he4, hb4⟩; have hB4 := below_box_trans hB3 hb4))
  clear p0 p1 p2 p3 p4 hl3 hb3 hb4
  obtain ⟨p0, p1, p2, p3, p4⟩ := box5 hB4
  go_wp2_with (first
    | (go_at_call 6; refine (toT e hwe _ _ (lies_box hv hB4)).mono ?_; rintro r w5 ⟨s5, rfl, ht5, hb5⟩; obtain ⟨a5, cap5, rfl⟩ := ht5.slice; have hB5 := below_box_trans hB4 hb5; have hz5 := hb5.size)
    | (go_at_call 7; refine (himpl _ _ (lies_alloc (lies_lt ht5.lies) _) (tab_box hT (box_alloc hB5))).mono ?_; rintro r w7 ⟨v7, rfl, ho7, hb7⟩; have hX7 := box_start hb7; have hB7 := below_box_trans (box_alloc hB5) hb7; have hC7 : Below w4.heap.size w4 w7 := below_next (below_al hb5) hb7; have hE7 := Env.keep he4 hC7)
    | (go_at_call 8; refine (law_eqStringS l _ _ _ (by omega) (own_env ho7) hE7).mono ?_; rintro r w8 ⟨rfl, hb8⟩; have hX8 := below_box_trans hX7 hb8; have hB8 := below_box_trans hB7 hb8; have hC8 := below_next hC7 hb8; have ho8 := ownsRow_keep ho7 hb8; clear p0 p1 p2 p3 p4 hE7))
  obtain ⟨p0, p1, p2, p3, p4⟩ := box5 hB8
  obtain ⟨q0, q1, q2, q3, q4⟩ := box5 hX8
  have hlv8 := lies_box hv hB8
  have hl8 := lies_box (lies_lt ht5.lies) hX8
  have HS : ∀ w', Below w8.heap.size w8 w' → (w'.cell? ⟨w5.heap.size, 0, none⟩ = some (.int .i64 e.kind) ∧ w'.cell? ⟨w5.heap.size, 1, none⟩ = some (.string e.name) ∧ w'.cell? ⟨w5.heap.size, 2, none⟩ = some (.string e.tail) ∧ w'.cell? ⟨w5.heap.size, 3, none⟩ = some (.int .i64 e.num) ∧ w'.cell? ⟨w5.heap.size, 4, none⟩ = some (.slice a5 e.kids.length cap5) ∧ w'.cell? ⟨w.heap.size, 0, none⟩ = some (.int .i64 e.kind) ∧ w'.cell? ⟨w.heap.size, 1, none⟩ = some (.string e.name) ∧ w'.cell? ⟨w.heap.size, 2, none⟩ = some (.string e.tail) ∧ w'.cell? ⟨w.heap.size, 3, none⟩ = some (.int .i64 e.num) ∧ w'.cell? ⟨w.heap.size, 4, none⟩ = some s) := fun w' h => by
    obtain ⟨u0, u1, u2, u3, u4⟩ := box5 (below_box_trans hX8 h)
    obtain ⟨t0, t1, t2, t3, t4⟩ := box5 (below_box_trans hB8 h)
    exact ⟨u0, u1, u2, u3, u4, t0, t1, t2, t3, t4⟩
  have hd8 : Below w8.heap.size w8 w8.drew := (Below.refl _ _).drew
  go_region_held3 (fun w' => w'.cell? ⟨w5.heap.size, 0, none⟩ = some (.int .i64 e.kind) ∧ w'.cell? ⟨w5.heap.size, 1, none⟩ = some (.string e.name) ∧ w'.cell? ⟨w5.heap.size, 2, none⟩ = some (.string e.tail) ∧ w'.cell? ⟨w5.heap.size, 3, none⟩ = some (.int .i64 e.num) ∧ w'.cell? ⟨w5.heap.size, 4, none⟩ = some (.slice a5 e.kids.length cap5) ∧ w'.cell? ⟨w.heap.size, 0, none⟩ = some (.int .i64 e.kind) ∧ w'.cell? ⟨w.heap.size, 1, none⟩ = some (.string e.name) ∧ w'.cell? ⟨w.heap.size, 2, none⟩ = some (.string e.tail) ∧ w'.cell? ⟨w.heap.size, 3, none⟩ = some (.int .i64 e.num) ∧ w'.cell? ⟨w.heap.size, 4, none⟩ = some s)
    (first | exact HS _ hc10 | exact HS _ hc9 | exact HS _ hd8)
    (first
      | (go_at_call 6; refine (to e hwe _ _ (hlv8.keep hd8 (Nat.le_refl _))).mono ?_; rintro r w9 ⟨s9, rfl, hl9, hb9⟩; have hc9 := below_next hd8 hb9)
      | (go_at_call 9; refine (eq e hwe _ _ _ (hl8.keep hc9 hc9.size) (lies_lt hl9)).mono ?_; rintro r w10 ⟨rfl, hb10⟩; have hc10 := below_next hc9 hb10))
  clear HS p0 p1 p2 p3 p4 q0 q1 q2 q3 q4 hb9 hb10 hl9 hl8 hlv8
  have hX10 := below_box_trans hX8 hc10
  have hB10 := below_box_trans hB8 hc10
  have hC10 := below_next hC8 hc10
  have ho10 := ownsRow_keep ho8 hc10
  obtain ⟨q0, q1, q2, q3, q4⟩ := box5 hX10
  have hz10 := hX10.size
  simp at hz10
  have hT10 : Tree w10 w4.heap.size w5.heap.size e.kids (.slice a5 e.kids.length cap5) := ht5.keep (below_of_box hX10) (Nat.le_refl _)
  have hmk : 1 + 4 * cntAll e.kids ≤ 100000000 := by omega
  have hge1 : 0 ≤ (1 : Int) + 4 * (cntAll e.kids : Int) := by omega
  have hge2 : 0 ≤ (1 : Int) + (l.length : Int) := by omega
  have hB45 : w4.heap.size ≤ w5.heap.size := hz5
  have hBw4 : w.heap.size + 1 ≤ w4.heap.size := by have := hB4.size; simpa using this
  have hmark := law_markExpr e hwe w10 _ _ _ 1 hT10 (by omega) (Nat.le_refl _) hmk
  go_upto_region 24 with (first
    | (go_at_call 10; refine hmark.mono ?_; rintro r w11 ⟨rfl, _, hW11⟩; have hB11 := below_within hB10 hW11 hBw4 (by omega); have hC11 := below_within hC10 hW11 (Nat.le_refl _) (by omega); have ho11 := own_within ho10 hW11 (by simp); have hE11 := Env.keep he4 hC11; have hz11 := hW11.size)
    | (go_at_call 8; refine (law_eqStringS l _ _ _ (by omega) (own_env ho11) hE11).mono ?_; rintro r w12 ⟨rfl, hb12⟩; have hB12 := below_box_trans hB11 hb12; have hC12 := below_next hC11 hb12; have ho12 := ownsRow_keep ho11 hb12; have hz12 := hb12.size)
    | (go_at_call 11; refine (law_markStringS l _ _ _ 1 (by omega) (Nat.le_refl _) (by omega) ho12).mono ?_; rintro r w13 ⟨rfl, ho13, hg13⟩; have hB13 := below_owned hB12 ho12 hg13 (by simp; omega) (by omega); have hC13 := below_owned hC12 ho12 hg13 (by simp; omega) (by omega); have hM13 : Env w13 (marksL l.length 1) v7 := own_env (by rw [marksL_length]; exact ho13); have hz13 := hg13.size)
    | (go_at_call 12; refine (law_heldStringS l.length 1 _ _ (by omega) (Nat.le_refl _) (by omega) hM13).mono ?_; rintro r w14 ⟨rfl, hb14⟩; have hB14 := below_box_trans hB13 hb14; have hC14 := below_next hC13 hb14; have hM14 := Env.keep hM13 hb14))
  clear q0 q1 q2 q3 q4
  obtain ⟨p0, p1, p2, p3, p4⟩ := box5 hB14
  go_wp2_with (first
    | (go_at_call 6; refine (to e hwe _ _ (lies_box hv hB14)).mono ?_; rintro r w15 ⟨s15, rfl, hl15, hb15⟩; have hB15 := below_box_trans hB14 hb15; have hC15 := below_next hC14 hb15; have hM15 := Env.keep hM14 hb15)
    | (go_at_call 7; refine (himpl _ _ (lies_lt hl15) (tab_box hT hB15)).mono ?_; rintro r w16 ⟨v16, rfl, ho16, hb16⟩; have hB16 := below_box_trans hB15 hb16; have hC16 := below_next hC15 hb16; have hM16 := Env.keep hM15 hb16; have hE16 := Env.keep he4 hC16)
    | (go_at_call 8; refine (law_eqStringS l _ _ _ (by omega) (own_env ho16) hE16).mono ?_; rintro r w17 ⟨rfl, hb17⟩; have hB17 := below_box_trans hB16 hb17; have hM17 := Env.keep hM16 hb17)
    | (go_at_call 12; refine (law_heldStringS l.length 1 _ _ (by omega) (Nat.le_refl _) (by omega) hM17).mono ?_; rintro r w18 ⟨rfl, hb18⟩; have hB18 := below_box_trans hB17 hb18))
  go_ret
  exact ⟨rfl, below_of_box hB18⟩
end Go.Proofs.YtkkjpiikilhobaaGreatDoor
