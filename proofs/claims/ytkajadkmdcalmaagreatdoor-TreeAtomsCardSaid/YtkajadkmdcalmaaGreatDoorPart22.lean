/-
  WHAT THE ROWS REST ON, part 22: Tnd Evr Tal Tlc.
-/
import Derived.Deep.DeepCutAuto
import Derived.Deep.CutBlock
import Derived.Deep.RegionHeld3
import Derived.Test.YtkajadkmdcalmaaGreatDoorTie
import Derived.Test.YtkajadkmdcalmaaGreatDoorCards
import Derived.LaidMore
import Derived.Stop.Joined
import Derived.SevenTiedAt
import Derived.Test.YtkajadkmdcalmaaGreatDoorPart21
/-
  node 19, the walk: conditions appended one by one.
-/
namespace Go.Proofs.YtkajadkmdcalmaaGreatDoor
open Go.RowKit
/-- blocks off the owned row stay -/
theorem NdI.stay {w wq W0 w4 : World} {Y B : Nat} {op lo hi : Int} {kd : ByteArray} {kv pv : Value} {L : List Cnd} {j : Nat} {u : Value} (h : NdI w wq Y B op kd lo hi kv pv L j u) (_hB : Y + 1 + 1 < B) (hW : Below wq.heap.size wq W0)
    (hg : W0.grownBy w4 u.ownBlock) : ∀ q, q < B → q < wq.heap.size → w4.heap[q]? = wq.heap[q]? := fun q hq hlt => by
  have hu : ∀ q, u.ownBlock = some q → B ≤ q := fun q hq => (World.ownsRow.lt h.o q hq).1
  exact (hg.block q (Nat.lt_of_lt_of_le hlt hW.size) (fun e => by have := hu _ e.symm; omega)).trans (hW.block q hlt)
set_option maxHeartbeats 8000000 in
set_option maxRecDepth 100000 in
theorem node_any (op lo hi : Int) (kd : ByteArray) (ka : Option Addr) (kl kc : Nat) (p : Option Addr) (cp : Nat) (L : List Cnd) (w : World) (hl : L.length ≤ 100) (hx : Cnds w p L) :
    Calls Tryz.prog 19 #[ndV op kd p L.length cp lo hi (.slice ka kl kc)] w fun e w' => ∃ a c, e = .returned (ndV op kd a L.length c lo hi (.slice ka kl kc)) ∧ Cnds w' a L ∧ Below w.heap.size w w' := by
  have HX := Lib.hid hx
  clear hx
  obtain ⟨w3, hw3, I0, B3, hs3⟩ := node_start w op lo hi kd (.slice ka kl kc) (.slice p L.length cp) L
  generalize hn : L.length = n at *
  have HN := Lib.hid hn
  have W3 := Lib.hid hw3
  have I0h := Lib.hid I0
  have B3h := Lib.hid B3
  clear hn hw3 I0 B3
  generalize hy : w.heap.size = Y at *
  obtain ⟨i62, hi62, hz0, hz1, hz2⟩ := info_parts info82
  unfold ndV
  go_enter Tryz.func19, Tryz.ntmps19
  go_wp2_with fail
  rw [← W3.out]
  go_loopw [4] (fun i wq => ∃ (j : Nat) (u : Value), i = .int .i64 j ∧ j ≤ n ∧ NdI w wq Y (Y + 3) op kd lo hi (.slice ka kl kc) (.slice p n cp) L j u ∧ Y + 3 ≤ wq.heap.size) (fun i _ => n - (intOf i).toNat)
  case atStart => exact ⟨0, .slice none 0 0, rfl, Nat.zero_le _, I0h.out, by omega⟩
  case round =>
    obtain ⟨j, u, rfl, hj, hI, hsz⟩ := hrel
    have HI := Lib.hid hI
    obtain ⟨ua, uc, hu⟩ := cnd_form hI.o
    subst hu
    have e4 : wr.cell? ⟨Y, 2, none⟩ = some (.slice p n cp) := hI.e.cell 2
    have x0 : wr.cell? ⟨Y + 1 + 1, 0, none⟩ = some (.int .i64 op) := hI.x.cell 0
    have x1 : wr.cell? ⟨Y + 1 + 1, 1, none⟩ = some (.string kd) := hI.x.cell 1
    have x4 : wr.cell? ⟨Y + 1 + 1, 2, none⟩ = some (.slice ua j uc) := hI.x.cell 2
    have x2 : wr.cell? ⟨Y + 1 + 1, 3, none⟩ = some (.int .i64 lo) := hI.x.cell 3
    have x3 : wr.cell? ⟨Y + 1 + 1, 4, none⟩ = some (.int .i64 hi) := hI.x.cell 4
    have x5 : wr.cell? ⟨Y + 1 + 1, 5, none⟩ = some (.slice ka kl kc) := hI.x.cell 5
    clear hI
    by_cases hjn : j < n
    · have hjL : j < L.length := by rw [HN.out]; exact hjn
      obtain ⟨g0, o, rfl, hg0, c0, c1, c2, c3, c4, c5⟩ := HX.out j hjL
      have hgb : g0 < Y := by rw [← hy]; exact hg0
      rw [← HI.out.b.cell (p := ⟨g0, _, none⟩) hgb] at c0 c1 c2 c3 c4 c5
      have PU := Lib.hid (fun W0 w4 g cap => HI.out.push (W0 := W0) (w4 := w4) (g := g) (cap := cap) (by omega) hjL)
      unfold encC at PU
      generalize L[j] = x at *
      obtain ⟨xn, xo, xk, xm, xf, xs⟩ := x
      simp only at c0 c1 c2 c3 c4 c5 PU
      have H1C : Hid (∀ u ∈ [Value.string xn, .int .i64 xo, .int .i64 xk, .int .i64 xm, .float .f64 xf, .string xs], u.oneCell' = true) := Lib.hid (by
        intro u hu
        simp at hu
        rcases hu with rfl | rfl | rfl | rfl | rfl | rfl <;> rfl)
      have lx : Y + 1 + 1 < wr.heap.size := by omega
      have y4 : ∀ o, (wr.alloc o).cell? ⟨Y + 1 + 1, 2, none⟩ = some (.slice ua j uc) := fun o => by rw [World.cell?_alloc_lt _ _ _ lx]; exact x4
      have ST := Lib.hid (fun W0 w4 => HI.out.stay (W0 := W0) (w4 := w4) (by omega))
      have SK : Hid (∀ w', (∀ q, q < Y + 3 → q < wr.heap.size → w'.heap[q]? = wr.heap[q]?) → (fun (w' : World) => w'.cell? ⟨Y + 1 + 1, 2, none⟩ = some (.slice ua j uc) ∧ w'.cell? ⟨Y, 2, none⟩ = some (.slice (some ⟨g0, o, none⟩) n cp) ∧ w'.cell? ⟨g0, o + j * 6, none⟩ = some (.string xn) ∧ w'.cell? ⟨g0, o + j * 6 + 1, none⟩ = some (.int .i64 xo) ∧ w'.cell? ⟨g0, o + j * 6 + 2, none⟩ = some (.int .i64 xk) ∧ w'.cell? ⟨g0, o + j * 6 + 3, none⟩ = some (.int .i64 xm) ∧ w'.cell? ⟨g0, o + j * 6 + 4, none⟩ = some (.float .f64 xf) ∧ w'.cell? ⟨g0, o + j * 6 + 5, none⟩ = some (.string xs)) w') := Lib.hid fun w' hb => by
        have lY : Y < wr.heap.size := by omega
        have lg : g0 < wr.heap.size := by omega
        have k : ∀ (g : Nat), g < Y + 3 → g < wr.heap.size → ∀ i, w'.cell? ⟨g, i, none⟩ = wr.cell? ⟨g, i, none⟩ := fun g h1 h2 i => World.cell?_of_block (hb g h1 h2)
        exact ⟨(k _ (by omega) lx _).trans x4, (k _ (by omega) lY _).trans e4, (k _ (by omega) lg _).trans c0, (k _ (by omega) lg _).trans c1, (k _ (by omega) lg _).trans c2, (k _ (by omega) lg _).trans c3, (k _ (by omega) lg _).trans c4, (k _ (by omega) lg _).trans c5⟩
      have OWD := Lib.hid (HI.out.drew.o)
      have jI : (j : Int) < (n : Int) := by omega
      clear x0 x1 x2 x3 x5 y4
      go_upto_block 1 with fail
      go_cut [23] (fun s23 wx => ∃ v5, NdI w wx Y (Y + 3) op kd lo hi (.slice ka kl kc) (.slice (some ⟨g0, o, none⟩) n cp) L (j + 1) v5 ∧ Y + 3 ≤ wx.heap.size)
      case first =>
        go_upto_region 5 with fail
        have SX := SK.out wr.drew (fun q _ _ => rfl)
        refine region_Z (fun (w' : World) => w'.cell? ⟨Y + 1 + 1, 2, none⟩ = some (.slice ua j uc) ∧ w'.cell? ⟨Y, 2, none⟩ = some (.slice (some ⟨g0, o, none⟩) n cp) ∧ w'.cell? ⟨g0, o + j * 6, none⟩ = some (.string xn) ∧ w'.cell? ⟨g0, o + j * 6 + 1, none⟩ = some (.int .i64 xo) ∧ w'.cell? ⟨g0, o + j * 6 + 2, none⟩ = some (.int .i64 xk) ∧ w'.cell? ⟨g0, o + j * 6 + 3, none⟩ = some (.int .i64 xm) ∧ w'.cell? ⟨g0, o + j * 6 + 4, none⟩ = some (.float .f64 xf) ∧ w'.cell? ⟨g0, o + j * 6 + 5, none⟩ = some (.string xs)) 24 mixedZ SX (fun _ => ?_)
        refine anyZ_take2 0 [22, 1] (v := ?_) rfl (by kernel_rfl) (by kernel_rfl) rfl (by kernel_rfl) (by kernel_rfl) (by kernel_rfl) (fun _ _ _ h => h) (Or.inl ⟨by rfl, ?_⟩) (by assumption) ?_
        rotate_left
        · intro w hSw
          obtain ⟨y4, e4, c0, c1, c2, c3, c4, c5⟩ := hSw
          go_simp
          try (with_reducible rfl)
        (try simp only [Act.put]); (try simp only [List.setIfInBounds_toArray]); (try simp only [List.set_cons_zero, List.set_cons_succ])
        refine anyZ_take2 1 [22] (v := ?_) rfl (by kernel_rfl) (by kernel_rfl) rfl (by kernel_rfl) (by kernel_rfl) (by kernel_rfl) (fun _ _ _ h => h) (Or.inl ⟨by rfl, ?_⟩) (by assumption) ?_
        rotate_left
        · intro w hSw
          obtain ⟨y4, e4, c0, c1, c2, c3, c4, c5⟩ := hSw
          go_simp
          try (with_reducible rfl)
        (try simp only [Act.put]); (try simp only [List.setIfInBounds_toArray]); (try simp only [List.set_cons_zero, List.set_cons_succ])
        refine anyZ_take2 2 [22, 21, 20, 7, 6, 5, 3] (v := ?_) rfl (by kernel_rfl) (by kernel_rfl) rfl (by kernel_rfl) (by kernel_rfl) (by kernel_rfl) (fun _ _ _ h => h) (Or.inl ⟨by rfl, ?_⟩) (by assumption) ?_
        rotate_left
        · intro w hSw
          obtain ⟨y4, e4, c0, c1, c2, c3, c4, c5⟩ := hSw
          go_simp
          try (with_reducible rfl)
        (try simp only [Act.put]); (try simp only [List.setIfInBounds_toArray]); (try simp only [List.set_cons_zero, List.set_cons_succ])
        refine anyZ_take2 3 [22, 21, 20, 7, 6, 5] (v := ?_) rfl (by kernel_rfl) (by kernel_rfl) rfl (by kernel_rfl) (by kernel_rfl) (by kernel_rfl) (fun _ _ _ h => h) (Or.inl ⟨by rfl, ?_⟩) (by assumption) ?_
        rotate_left
        · intro w hSw
          obtain ⟨y4, e4, c0, c1, c2, c3, c4, c5⟩ := hSw
          go_simp
          try (with_reducible rfl)
        (try simp only [Act.put]); (try simp only [List.setIfInBounds_toArray]); (try simp only [List.set_cons_zero, List.set_cons_succ])
        refine anyZ_take2 4 [22, 21, 20, 7, 6, 5] (v := ?_) rfl (by kernel_rfl) (by kernel_rfl) rfl (by kernel_rfl) (by kernel_rfl) (by kernel_rfl) (fun _ _ _ h => h) (Or.inl ⟨by rfl, ?_⟩) (by assumption) ?_
        rotate_left
        · intro w hSw
          obtain ⟨y4, e4, c0, c1, c2, c3, c4, c5⟩ := hSw
          go_simp
          try (with_reducible rfl)
        (try simp only [Act.put]); (try simp only [List.setIfInBounds_toArray]); (try simp only [List.set_cons_zero, List.set_cons_succ])
        refine anyZ_take2 5 [22, 21, 20, 7, 6] (v := ?_) rfl (by kernel_rfl) (by kernel_rfl) rfl (by kernel_rfl) (by kernel_rfl) (by kernel_rfl) (fun _ _ _ h => h) (Or.inl ⟨by rfl, ?_⟩) (by assumption) ?_
        rotate_left
        · intro w hSw
          obtain ⟨y4, e4, c0, c1, c2, c3, c4, c5⟩ := hSw
          go_simp
          try (with_reducible rfl)
        (try simp only [Act.put]); (try simp only [List.setIfInBounds_toArray]); (try simp only [List.set_cons_zero, List.set_cons_succ])
        refine anyZ_take2 6 [22, 21, 20, 7] (v := ?_) rfl (by kernel_rfl) (by kernel_rfl) rfl (by kernel_rfl) (by kernel_rfl) (by kernel_rfl) (fun _ _ _ h => h) (Or.inl ⟨by rfl, ?_⟩) (by assumption) ?_
        rotate_left
        · intro w hSw
          obtain ⟨y4, e4, c0, c1, c2, c3, c4, c5⟩ := hSw
          go_simp
          try (with_reducible rfl)
        (try simp only [Act.put]); (try simp only [List.setIfInBounds_toArray]); (try simp only [List.set_cons_zero, List.set_cons_succ])
        refine anyZ_take2 7 [22, 21, 20] (v := ?_) rfl (by kernel_rfl) (by kernel_rfl) rfl (by kernel_rfl) (by kernel_rfl) (by kernel_rfl) (fun _ _ _ h => h) (Or.inl ⟨by rfl, ?_⟩) (by assumption) ?_
        rotate_left
        · intro w hSw
          obtain ⟨y4, e4, c0, c1, c2, c3, c4, c5⟩ := hSw
          go_simp
          try (with_reducible rfl)
        (try simp only [Act.put]); (try simp only [List.setIfInBounds_toArray]); (try simp only [List.set_cons_zero, List.set_cons_succ])
        refine anyZ_take2 8 [22, 21, 20, 13, 12, 11, 9] (v := ?_) rfl (by kernel_rfl) (by kernel_rfl) rfl (by kernel_rfl) (by kernel_rfl) (by kernel_rfl) (fun _ _ _ h => h) (Or.inl ⟨by rfl, ?_⟩) (by assumption) ?_
        rotate_left
        · intro w hSw
          obtain ⟨y4, e4, c0, c1, c2, c3, c4, c5⟩ := hSw
          go_simp
          try (with_reducible rfl)
        (try simp only [Act.put]); (try simp only [List.setIfInBounds_toArray]); (try simp only [List.set_cons_zero, List.set_cons_succ])
        refine anyZ_take2 9 [22, 21, 20, 13, 12, 11] (v := ?_) rfl (by kernel_rfl) (by kernel_rfl) rfl (by kernel_rfl) (by kernel_rfl) (by kernel_rfl) (fun _ _ _ h => h) (Or.inl ⟨by rfl, ?_⟩) (by assumption) ?_
        rotate_left
        · intro w hSw
          obtain ⟨y4, e4, c0, c1, c2, c3, c4, c5⟩ := hSw
          go_simp
          try (with_reducible rfl)
        (try simp only [Act.put]); (try simp only [List.setIfInBounds_toArray]); (try simp only [List.set_cons_zero, List.set_cons_succ])
        refine anyZ_take2 10 [22, 21, 20, 13, 12, 11] (v := ?_) rfl (by kernel_rfl) (by kernel_rfl) rfl (by kernel_rfl) (by kernel_rfl) (by kernel_rfl) (fun _ _ _ h => h) (Or.inl ⟨by rfl, ?_⟩) (by assumption) ?_
        rotate_left
        · intro w hSw
          obtain ⟨y4, e4, c0, c1, c2, c3, c4, c5⟩ := hSw
          go_simp
          try (with_reducible rfl)
        (try simp only [Act.put]); (try simp only [List.setIfInBounds_toArray]); (try simp only [List.set_cons_zero, List.set_cons_succ])
        refine anyZ_take2 11 [22, 21, 20, 13, 12] (v := ?_) rfl (by kernel_rfl) (by kernel_rfl) rfl (by kernel_rfl) (by kernel_rfl) (by kernel_rfl) (fun _ _ _ h => h) (Or.inl ⟨by rfl, ?_⟩) (by assumption) ?_
        rotate_left
        · intro w hSw
          obtain ⟨y4, e4, c0, c1, c2, c3, c4, c5⟩ := hSw
          go_simp
          try (with_reducible rfl)
        (try simp only [Act.put]); (try simp only [List.setIfInBounds_toArray]); (try simp only [List.set_cons_zero, List.set_cons_succ])
        refine anyZ_take2 12 [22, 21, 20, 13] (v := ?_) rfl (by kernel_rfl) (by kernel_rfl) rfl (by kernel_rfl) (by kernel_rfl) (by kernel_rfl) (fun _ _ _ h => h) (Or.inl ⟨by rfl, ?_⟩) (by assumption) ?_
        rotate_left
        · intro w hSw
          obtain ⟨y4, e4, c0, c1, c2, c3, c4, c5⟩ := hSw
          go_simp
          try (with_reducible rfl)
        (try simp only [Act.put]); (try simp only [List.setIfInBounds_toArray]); (try simp only [List.set_cons_zero, List.set_cons_succ])
        refine anyZ_take2 13 [22, 21, 20] (v := ?_) rfl (by kernel_rfl) (by kernel_rfl) rfl (by kernel_rfl) (by kernel_rfl) (by kernel_rfl) (fun _ _ _ h => h) (Or.inl ⟨by rfl, ?_⟩) (by assumption) ?_
        rotate_left
        · intro w hSw
          obtain ⟨y4, e4, c0, c1, c2, c3, c4, c5⟩ := hSw
          go_simp
          try (with_reducible rfl)
        (try simp only [Act.put]); (try simp only [List.setIfInBounds_toArray]); (try simp only [List.set_cons_zero, List.set_cons_succ])
        refine anyZ_take2 14 [22, 21, 20, 19, 18, 17, 15] (v := ?_) rfl (by kernel_rfl) (by kernel_rfl) rfl (by kernel_rfl) (by kernel_rfl) (by kernel_rfl) (fun _ _ _ h => h) (Or.inl ⟨by rfl, ?_⟩) (by assumption) ?_
        rotate_left
        · intro w hSw
          obtain ⟨y4, e4, c0, c1, c2, c3, c4, c5⟩ := hSw
          go_simp
          try (with_reducible rfl)
        (try simp only [Act.put]); (try simp only [List.setIfInBounds_toArray]); (try simp only [List.set_cons_zero, List.set_cons_succ])
        refine anyZ_take2 15 [22, 21, 20, 19, 18, 17] (v := ?_) rfl (by kernel_rfl) (by kernel_rfl) rfl (by kernel_rfl) (by kernel_rfl) (by kernel_rfl) (fun _ _ _ h => h) (Or.inl ⟨by rfl, ?_⟩) (by assumption) ?_
        rotate_left
        · intro w hSw
          obtain ⟨y4, e4, c0, c1, c2, c3, c4, c5⟩ := hSw
          go_simp
          try (with_reducible rfl)
        (try simp only [Act.put]); (try simp only [List.setIfInBounds_toArray]); (try simp only [List.set_cons_zero, List.set_cons_succ])
        refine anyZ_take2 16 [22, 21, 20, 19, 18, 17] (v := ?_) rfl (by kernel_rfl) (by kernel_rfl) rfl (by kernel_rfl) (by kernel_rfl) (by kernel_rfl) (fun _ _ _ h => h) (Or.inl ⟨by rfl, ?_⟩) (by assumption) ?_
        rotate_left
        · intro w hSw
          obtain ⟨y4, e4, c0, c1, c2, c3, c4, c5⟩ := hSw
          go_simp
          try (with_reducible rfl)
        (try simp only [Act.put]); (try simp only [List.setIfInBounds_toArray]); (try simp only [List.set_cons_zero, List.set_cons_succ])
        refine anyZ_take2 17 [22, 21, 20, 19, 18] (v := ?_) rfl (by kernel_rfl) (by kernel_rfl) rfl (by kernel_rfl) (by kernel_rfl) (by kernel_rfl) (fun _ _ _ h => h) (Or.inl ⟨by rfl, ?_⟩) (by assumption) ?_
        rotate_left
        · intro w hSw
          obtain ⟨y4, e4, c0, c1, c2, c3, c4, c5⟩ := hSw
          go_simp
          try (with_reducible rfl)
        (try simp only [Act.put]); (try simp only [List.setIfInBounds_toArray]); (try simp only [List.set_cons_zero, List.set_cons_succ])
        refine anyZ_take2 18 [22, 21, 20, 19] (v := ?_) rfl (by kernel_rfl) (by kernel_rfl) rfl (by kernel_rfl) (by kernel_rfl) (by kernel_rfl) (fun _ _ _ h => h) (Or.inl ⟨by rfl, ?_⟩) (by assumption) ?_
        rotate_left
        · intro w hSw
          obtain ⟨y4, e4, c0, c1, c2, c3, c4, c5⟩ := hSw
          go_simp
          try (with_reducible rfl)
        (try simp only [Act.put]); (try simp only [List.setIfInBounds_toArray]); (try simp only [List.set_cons_zero, List.set_cons_succ])
        refine anyZ_take2 19 [22, 21, 20] (v := ?_) rfl (by kernel_rfl) (by kernel_rfl) rfl (by kernel_rfl) (by kernel_rfl) (by kernel_rfl) (fun _ _ _ h => h) (Or.inl ⟨by rfl, ?_⟩) (by assumption) ?_
        rotate_left
        · intro w hSw
          obtain ⟨y4, e4, c0, c1, c2, c3, c4, c5⟩ := hSw
          go_simp
          try (with_reducible rfl)
        (try simp only [Act.put]); (try simp only [List.setIfInBounds_toArray]); (try simp only [List.set_cons_zero, List.set_cons_succ])
        refine anyZ_take2 20 [22, 21] (v := ?_) rfl (by kernel_rfl) (by kernel_rfl) rfl (by kernel_rfl) (by kernel_rfl) (by kernel_rfl) (fun _ _ _ h => h) (Or.inl ⟨by rfl, ?_⟩) (by assumption) ?_
        rotate_left
        · intro w hSw
          obtain ⟨y4, e4, c0, c1, c2, c3, c4, c5⟩ := hSw
          go_simp
          try (with_reducible rfl)
        (try simp only [Act.put]); (try simp only [List.setIfInBounds_toArray]); (try simp only [List.set_cons_zero, List.set_cons_succ])
        refine anyZ_one 21 rfl (by kernel_rfl) (fun K hK => ?_)
        refine wpOp_step rfl (fun K' hK' => ?_)
        go_simp
        refine hK' _ _ (hK _ _ ⟨fun _ => SK.out _ (fun q _ hq => (((Below.refl wr.heap.size wr).drew).alloc (Nat.le_refl _) _).block q hq), ?_⟩)
        clear hK hK' K K'
        refine anyZ_one 22 rfl (by kernel_rfl) (fun K hK => ?_)
        refine wpOp_step rfl (fun K' hK' => ?_)
        refine step_append_lies _ rfl (.tmp 24) (.tmp 44) 49 rfl (Y + 3) 82 i62 (.agg #[.string ⟨#[]⟩, .int .i64 0, .int .i64 0, .int .i64 0, .float .f64 0, .string ⟨#[]⟩]) 6 64 Tryz.underlying49 hi62 hz0 hz1 hz2 rfl (by decide) (.slice ua j uc) j (cellsC (L.take j)) rfl (World.ownsRow.alloc OWD.out _) ⟨wr.heap.size, 0, none⟩ 1 1 [.string xn, .int .i64 xo, .int .i64 xk, .int .i64 xm, .float .f64 xf, .string xs] rfl rfl (World.news_of_block (cs := #[.string xn, .int .i64 xo, .int .i64 xk, .int .i64 xm, .float .f64 xf, .string xs]) (heap_alloc_new wr.drew _)) H1C.out (by decide) (by unfold maxLen; omega) (by omega) (by show Y + 3 ≤ (wr.drew.alloc _).heap.size; simp; omega) _ rfl ?_
        intro g4 cap4 w4 ho4 hg4 hat4 _
        obtain ⟨I4, f4, q4⟩ := PU.out _ w4 g4 cap4 (((Below.refl _ wr).drew).alloc (Nat.le_refl _) _) ho4 hg4
        have G5 := World.ownsRow.lt I4.o g4 rfl
        have I4h := Lib.hid I4
        have hzz : Y + 3 ≤ (w4.setCell ⟨Y + 1 + 1, 2, none⟩ (.slice (some ⟨g4, 0, none⟩) (j + 1) cap4)).heap.size := Nat.le_trans G5.1 (Nat.le_of_lt G5.2)
        have S4 := SK.out w4 (fun q hq hq2 => ST.out _ w4 (((Below.refl _ wr).drew).alloc (Nat.le_refl _) _) hg4 q hq hq2)
        clear I4 ho4 hg4 hat4 G5
        refine hK' _ _ (hK _ _ ⟨fun _ => S4, ?_⟩)
        clear hK hK' K K' SX
        (try simp only [Act.put]); (try simp only [List.setIfInBounds_toArray]); (try simp only [List.set_cons_zero, List.set_cons_succ])
        refine anyZ_take2 23 [] (v := ?_) rfl (by kernel_rfl) (by kernel_rfl) rfl (by kernel_rfl) (by kernel_rfl) (by kernel_rfl) (fun _ _ _ h => h) (Or.inl ⟨by rfl, ?_⟩) (by assumption) ?_
        rotate_left
        · intro w hSw
          obtain ⟨y4, e4, c0, c1, c2, c3, c4, c5⟩ := hSw
          go_simp
          try (with_reducible rfl)
        (try simp only [Act.put]); (try simp only [List.setIfInBounds_toArray]); (try simp only [List.set_cons_zero, List.set_cons_succ])
        clear S4
        refine anyZ_one 24 rfl (by kernel_rfl) (fun K hK => ?_)
        refine wpOp_step rfl (fun K' hK' => ?_)
        go_simp
        refine hK' _ _ (hK _ _ ⟨fun h => absurd rfl h, ?_⟩)
        clear hK hK' K K'
        refine anyZ_done (by kernel_rfl) ?_ _
        go_wp2_with fail
        go_meet
        exact ⟨_, I4h.out, hzz⟩
      case rest =>
        obtain ⟨v5, I5, hz5⟩ := hcut
        have I5h := Lib.hid I5
        clear I5 H1C PU c0 c1 c2 c3 c4 c5 e4 x4 HI I0h SK ST OWD W3 HX B3h
        go_wp2_with fail
        go_roundw
        case rel => exact ⟨j + 1, _, by go_num, by omega, I5h.out, hz5⟩
        case measure => simp [intOf]; omega
    · obtain rfl : j = n := by omega
      have z0 : wr.cell? ⟨Y + 1, 0, none⟩ = some (.int .i64 0) := HI.out.z.cell 0
      have z1 : wr.cell? ⟨Y + 1, 1, none⟩ = some (.string ⟨#[]⟩) := HI.out.z.cell 1
      have z2 : wr.cell? ⟨Y + 1, 2, none⟩ = some (.slice none 0 0) := HI.out.z.cell 2
      have z3 : wr.cell? ⟨Y + 1, 3, none⟩ = some (.int .i64 0) := HI.out.z.cell 3
      have z4 : wr.cell? ⟨Y + 1, 4, none⟩ = some (.int .i64 0) := HI.out.z.cell 4
      have z5 : wr.cell? ⟨Y + 1, 5, none⟩ = some (.slice none 0 0) := HI.out.z.cell 5
      have f0 := HI.out.z.free 0
      have f1 := HI.out.z.free 1
      have f2 := HI.out.z.free 2
      have f3 := HI.out.z.free 3
      have f4 := HI.out.z.free 4
      have f5 := HI.out.z.free 5
      obtain ⟨W5, hW5, R5, B5, L5⟩ := node_end HI.out HN.out.symm
      have R5h := Lib.hid R5
      have B5h := Lib.hid B5
      have L5h := Lib.hid L5
      have W5h := Lib.hid hW5
      clear hW5 R5 B5 L5
      go_wp2_with fail
      rw [← W5h.out]
      have q0 : W5.cell? ⟨Y + 1, 0, none⟩ = some (.int .i64 op) := R5h.out.cell 0
      have q1 : W5.cell? ⟨Y + 1, 1, none⟩ = some (.string kd) := R5h.out.cell 1
      have q2 : W5.cell? ⟨Y + 1, 2, none⟩ = some (.slice ua j uc) := R5h.out.cell 2
      have q3 : W5.cell? ⟨Y + 1, 3, none⟩ = some (.int .i64 lo) := R5h.out.cell 3
      have q4 : W5.cell? ⟨Y + 1, 4, none⟩ = some (.int .i64 hi) := R5h.out.cell 4
      have q5 : W5.cell? ⟨Y + 1, 5, none⟩ = some (.slice ka kl kc) := R5h.out.cell 5
      refine bodyPost_ret (by simp [results, Tryz.results19, go_sem, q0, q1, q2, q3, q4, q5]; try rfl) rfl ?_
      exact ⟨ua, uc, rfl, L5h.out, hy ▸ B5h.out⟩
end Go.Proofs.YtkajadkmdcalmaaGreatDoor
/-
  THE WALK OF Ref: fields appended one by one, in a region that draws its order: 36 ways, met by a cut.
-/
namespace Go.Proofs.YtkajadkmdcalmaaGreatDoor
open Go.RowKit
set_option maxHeartbeats 2000000 in
set_option maxRecDepth 100000 in
theorem ref_any (a b c : Int) (k : ByteArray) (p : Option Addr) (cp : Nat) (L : List Fld) (w : World) (hl : L.length ≤ 100) (hx : Flds w p L) :
    Calls Tryz.prog 20 #[evV a b c k (.slice p L.length cp)] w (Refd w a b c k L) := by
  have HX := Lib.hid hx
  clear hx
  obtain ⟨w3, hw3, I0, B3, hs3⟩ : ∃ w3, w3 = ((w.alloc (.cells #[.int .i64 a, .int .i64 b, .int .i64 c, .string k, .slice p L.length cp] 46)).alloc (.cells #[.int .i64 0, .int .i64 0, .int .i64 0, .string ⟨#[]⟩, .slice none 0 0] 55)).alloc (.cells #[.int .i64 a, .int .i64 b, .int .i64 c, .string k, .slice none 0 0] 55) ∧
      RefI w w3 w.heap.size (w.heap.size + 3) a b c k (.slice p L.length cp) L 0 (.slice none 0 0) ∧ Below w.heap.size w w3 ∧ w3.heap.size = w.heap.size + 3 := by
    have B1 := (Below.refl w.heap.size w).alloc (Nat.le_refl _) (.cells #[.int .i64 a, .int .i64 b, .int .i64 c, .string k, .slice p L.length cp] 46)
    have e1 : Blk (w.alloc (.cells #[.int .i64 a, .int .i64 b, .int .i64 c, .string k, .slice p L.length cp] 46)) w.heap.size 46 #[.int .i64 a, .int .i64 b, .int .i64 c, .string k, .slice p L.length cp] := heap_alloc_new w _
    have h1 : (w.alloc (.cells #[.int .i64 a, .int .i64 b, .int .i64 c, .string k, .slice p L.length cp] 46)).heap.size = w.heap.size + 1 := by simp
    generalize w.alloc (.cells #[.int .i64 a, .int .i64 b, .int .i64 c, .string k, .slice p L.length cp] 46) = w1 at *
    have b2 := (Below.refl w1.heap.size w1).alloc (Nat.le_refl _) (.cells #[.int .i64 0, .int .i64 0, .int .i64 0, .string ⟨#[]⟩, .slice none 0 0] 55)
    have e2 : Blk (w1.alloc (.cells #[.int .i64 0, .int .i64 0, .int .i64 0, .string ⟨#[]⟩, .slice none 0 0] 55)) w1.heap.size 55 #[.int .i64 0, .int .i64 0, .int .i64 0, .string ⟨#[]⟩, .slice none 0 0] := heap_alloc_new w1 _
    have h2 : (w1.alloc (.cells #[.int .i64 0, .int .i64 0, .int .i64 0, .string ⟨#[]⟩, .slice none 0 0] 55)).heap.size = w1.heap.size + 1 := by simp
    have e1' := e1.below b2
    have B2 := B1.trans (b2.mono (by omega))
    generalize w1.alloc (.cells #[.int .i64 0, .int .i64 0, .int .i64 0, .string ⟨#[]⟩, .slice none 0 0] 55) = w2 at *
    have b3 := (Below.refl w2.heap.size w2).alloc (Nat.le_refl _) (.cells #[.int .i64 a, .int .i64 b, .int .i64 c, .string k, .slice none 0 0] 55)
    have e3 : Blk (w2.alloc (.cells #[.int .i64 a, .int .i64 b, .int .i64 c, .string k, .slice none 0 0] 55)) w2.heap.size 55 #[.int .i64 a, .int .i64 b, .int .i64 c, .string k, .slice none 0 0] := heap_alloc_new w2 _
    refine ⟨_, rfl, ⟨e1'.below b3, ?_, ?_, World.ownsRow_nil _ _ _ _, B2.trans (b3.mono (by omega))⟩, B2.trans (b3.mono (by omega)), by simp; omega⟩
    · have := e2.below b3; rw [h1] at this; exact this
    · rw [h2, h1] at e3; exact e3
  generalize hn : L.length = n at *
  have HN := Lib.hid hn
  have W3 := Lib.hid hw3
  have I0h := Lib.hid I0
  have B3h := Lib.hid B3
  clear hn hw3 I0 B3
  generalize hy : w.heap.size = Y at *
  obtain ⟨i62, hi, hz0, hz1, hz2⟩ := info_parts info62
  unfold evV
  go_enter Tryz.func20, Tryz.ntmps20
  go_wp2_with fail
  rw [← W3.out]
  go_loopw [4] (fun i wq => ∃ (j : Nat) (u : Value), i = .int .i64 j ∧ j ≤ n ∧ RefI w wq Y (Y + 3) a b c k (.slice p n cp) L j u ∧ Y + 3 ≤ wq.heap.size) (fun i _ => n - (intOf i).toNat)
  case atStart => exact ⟨0, .slice none 0 0, rfl, Nat.zero_le _, I0h.out, by omega⟩
  case round =>
    obtain ⟨j, u, rfl, hj, hI, hsz⟩ := hrel
    have HI := Lib.hid hI
    obtain ⟨ua, uc, hu⟩ := fld_form hI.o
    subst hu
    have e0 : wr.cell? ⟨Y, 0, none⟩ = some (.int .i64 a) := hI.e.cell 0
    have e4 : wr.cell? ⟨Y, 4, none⟩ = some (.slice p n cp) := hI.e.cell 4
    have x0 : wr.cell? ⟨Y + 1 + 1, 0, none⟩ = some (.int .i64 a) := hI.x.cell 0
    have x1 : wr.cell? ⟨Y + 1 + 1, 1, none⟩ = some (.int .i64 b) := hI.x.cell 1
    have x2 : wr.cell? ⟨Y + 1 + 1, 2, none⟩ = some (.int .i64 c) := hI.x.cell 2
    have x3 : wr.cell? ⟨Y + 1 + 1, 3, none⟩ = some (.string k) := hI.x.cell 3
    have x4 : wr.cell? ⟨Y + 1 + 1, 4, none⟩ = some (.slice ua j uc) := hI.x.cell 4
    clear hI
    by_cases hjn : j < n
    · have hjL : j < L.length := by rw [HN.out]; exact hjn
      obtain ⟨g0, o, rfl, hg0, c0, c1, c2, c3, c4⟩ := HX.out j hjL
      have hgb : g0 < Y := by rw [← hy]; exact hg0
      rw [← HI.out.b.cell (p := ⟨g0, _, none⟩) hgb] at c0 c1 c2 c3 c4
      have PU := Lib.hid (fun W0 w4 g cap => HI.out.push (W0 := W0) (w4 := w4) (g := g) (cap := cap) (by omega) hjL)
      unfold encF at PU
      generalize L[j] = x at *
      obtain ⟨xn, xk, xm, xf, xs⟩ := x
      simp only at c0 c1 c2 c3 c4 PU
      have H1C : Hid (∀ u ∈ [Value.string xn, .int .i64 xk, .int .i64 xm, .float .f64 xf, .string xs], u.oneCell' = true) := Lib.hid (by
        intro u hu
        simp at hu
        rcases hu with rfl | rfl | rfl | rfl | rfl <;> rfl)
      have lx : Y + 1 + 1 < wr.heap.size := by omega
      have y4 : ∀ o, (wr.alloc o).cell? ⟨Y + 1 + 1, 4, none⟩ = some (.slice ua j uc) := fun o => by rw [World.cell?_alloc_lt _ _ _ lx]; exact x4
      clear e0 x0 x1 x2 x3
      go_upto_block 1 with fail
      go_cut [21] (fun s21 wx => ∃ v5, RefI w wx Y (Y + 3) a b c k (.slice (some ⟨g0, o, none⟩) n cp) L (j + 1) v5 ∧ Y + 3 ≤ wx.heap.size)
      case first =>
        go_upto_region 5 with fail
        go_region_law
          ((refine step_append_lies _ rfl (.tmp 22) (.tmp 36) 53 rfl (Y + 3) 87 i62 (.agg #[.string ⟨#[]⟩, .int .i64 0, .int .i64 0, .float .f64 0, .string ⟨#[]⟩]) 5 56 Tryz.underlying53 hi hz0 hz1 hz2 rfl (by decide) (.slice ua j uc) j (cellsF (L.take j)) rfl (World.ownsRow.alloc HI.out.o _) ⟨wr.heap.size, 0, none⟩ 1 1 [.string xn, .int .i64 xk, .int .i64 xm, .float .f64 xf, .string xs] rfl rfl (World.news_of_block (cs := #[.string xn, .int .i64 xk, .int .i64 xm, .float .f64 xf, .string xs]) (heap_alloc_new wr _)) H1C.out (by decide) (by unfold maxLen; omega) (by omega) (by show Y + 3 ≤ (wr.alloc _).heap.size; simp; omega) _ rfl ?_; intro g4 cap4 w4 ho4 hg4 hat4 _; obtain ⟨I4, f4, q4⟩ := PU.out _ w4 g4 cap4 (((Below.refl _ wr).drew).alloc (Nat.le_refl _) _) ho4 hg4; have G5 := World.ownsRow.lt I4.o g4 rfl; have I4h := Lib.hid I4; have hzz : Y + 3 ≤ (w4.setCell ⟨Y + 1 + 1, 4, none⟩ (.slice (some ⟨g4, 0, none⟩) (j + 1) cap4)).heap.size := Nat.le_trans G5.1 (Nat.le_of_lt G5.2); clear I4 ho4 hg4 hat4 G5))
        all_goals (go_wp2_with fail; go_meet; exact ⟨_, I4h.out, hzz⟩)
      case rest =>
        obtain ⟨v5, I5, hz5⟩ := hcut
        have I5h := Lib.hid I5
        clear I5 H1C PU c0 c1 c2 c3 c4 e4 x4 y4 HI I0h W3 HX B3h
        go_wp2_with fail
        go_roundw
        case rel => exact ⟨j + 1, _, by go_num, by omega, I5h.out, hz5⟩
        case measure => simp [intOf]; omega
    · obtain rfl : j = n := by omega
      have z0 : wr.cell? ⟨Y + 1, 0, none⟩ = some (.int .i64 0) := HI.out.z.cell 0
      have z1 : wr.cell? ⟨Y + 1, 1, none⟩ = some (.int .i64 0) := HI.out.z.cell 1
      have z2 : wr.cell? ⟨Y + 1, 2, none⟩ = some (.int .i64 0) := HI.out.z.cell 2
      have z3 : wr.cell? ⟨Y + 1, 3, none⟩ = some (.string ⟨#[]⟩) := HI.out.z.cell 3
      have z4 : wr.cell? ⟨Y + 1, 4, none⟩ = some (.slice none 0 0) := HI.out.z.cell 4
      have f0 := HI.out.z.free 0
      have f1 := HI.out.z.free 1
      have f2 := HI.out.z.free 2
      have f3 := HI.out.z.free 3
      have f4 := HI.out.z.free 4
      obtain ⟨W5, hW5, R5, B5, L5⟩ := ref_end HI.out HN.out.symm
      have R5h := Lib.hid R5
      have B5h := Lib.hid B5
      have L5h := Lib.hid L5
      have W5h := Lib.hid hW5
      clear hW5 R5 B5 L5
      go_wp2_with fail
      rw [← W5h.out]
      have q0 : W5.cell? ⟨Y + 1, 0, none⟩ = some (.int .i64 a) := R5h.out.cell 0
      have q1 : W5.cell? ⟨Y + 1, 1, none⟩ = some (.int .i64 b) := R5h.out.cell 1
      have q2 : W5.cell? ⟨Y + 1, 2, none⟩ = some (.int .i64 c) := R5h.out.cell 2
      have q3 : W5.cell? ⟨Y + 1, 3, none⟩ = some (.string k) := R5h.out.cell 3
      have q4 : W5.cell? ⟨Y + 1, 4, none⟩ = some (.slice ua j uc) := R5h.out.cell 4
      refine bodyPost_ret (by simp [results, Tryz.results20, go_sem, q0, q1, q2, q3, q4]; try rfl) rfl ?_
      exact ⟨ua, uc, by rw [HN.out]; rfl, L5h.out, hy ▸ B5h.out⟩
end Go.Proofs.YtkajadkmdcalmaaGreatDoor
/-
  THE LAW TreeAtoms AS A WALK.
-/
namespace Go.Proofs.YtkajadkmdcalmaaGreatDoor
open Go.RowKit
/-- the node's and the event's cells -/
abbrev SNE (Y : Nat) (v0 v1 v2 v3 v4 v5 u0 u1 u2 u3 u4 : Value) (w : World) : Prop :=
  w.cell? ⟨Y, 0, none⟩ = some v0 ∧ w.cell? ⟨Y, 1, none⟩ = some v1 ∧ w.cell? ⟨Y, 2, none⟩ = some v2 ∧ w.cell? ⟨Y, 3, none⟩ = some v3 ∧ w.cell? ⟨Y, 4, none⟩ = some v4 ∧ w.cell? ⟨Y, 5, none⟩ = some v5 ∧
  w.cell? ⟨Y + 1, 0, none⟩ = some u0 ∧ w.cell? ⟨Y + 1, 1, none⟩ = some u1 ∧ w.cell? ⟨Y + 1, 2, none⟩ = some u2 ∧ w.cell? ⟨Y + 1, 3, none⟩ = some u3 ∧ w.cell? ⟨Y + 1, 4, none⟩ = some u4
theorem SNE.below {Y : Nat} {v0 v1 v2 v3 v4 v5 u0 u1 u2 u3 u4 : Value} {w w' : World} (h : SNE Y v0 v1 v2 v3 v4 v5 u0 u1 u2 u3 u4 w) (hb : Below w.heap.size w w') : SNE Y v0 v1 v2 v3 v4 v5 u0 u1 u2 u3 u4 w' := by
  obtain ⟨c0, c1, c2, c3, c4, c5, d0, d1, d2, d3, d4⟩ := h
  have e : ∀ {b o : Nat} {v : Value}, w.cell? ⟨b, o, none⟩ = some v → w'.cell? ⟨b, o, none⟩ = some v := fun hc => by rw [hb.cell (p := ⟨_, _, none⟩) (World.block_lt_of_cell? _ _ hc)]; exact hc
  exact ⟨e c0, e c1, e c2, e c3, e c4, e c5, e d0, e d1, e d2, e d3, e d4⟩
set_option maxHeartbeats 4000000 in
set_option maxRecDepth 100000 in
theorem atoms_law (op lo hi : Int) (kd : ByteArray) (ka : Option Addr) (kl kc : Nat) (ca : Option Addr) (cc : Nat) (cs : List Cnd) (a b c : Int) (k : ByteArray) (p : Option Addr) (cp : Nat) (L : List Fld) (w : World)
    (hcs : Cnds w ca cs) (hx : Flds w p L) (hS : ∀ x ∈ L, x.v.s.size ≤ 281474976710656) (hW : ∀ x ∈ L, x.v.Wf) (hC : ∀ c ∈ cs, c.v.Wf) (hm : cs.length ≤ 9223372036854775807) (hl : L.length ≤ 9223372036854775807) :
    Calls Tryz.prog 5 #[ndV op kd ca cs.length cc lo hi (.slice ka kl kc), evV a b c k (.slice p L.length cp)] w fun e w' => e = .returned (.bool true) ∧ Below w.heap.size w w' := by
  obtain ⟨W, hW1, K0, K1, BW⟩ : ∃ W, W = (w.alloc (.cells #[.int .i64 op, .string kd, .slice ca cs.length cc, .int .i64 lo, .int .i64 hi, .slice ka kl kc] 43)).alloc (.cells #[.int .i64 a, .int .i64 b, .int .i64 c, .string k, .slice p L.length cp] 46) ∧
      Blk W w.heap.size 43 #[.int .i64 op, .string kd, .slice ca cs.length cc, .int .i64 lo, .int .i64 hi, .slice ka kl kc] ∧ Blk W (w.heap.size + 1) 46 #[.int .i64 a, .int .i64 b, .int .i64 c, .string k, .slice p L.length cp] ∧ Below w.heap.size w W := by
    obtain ⟨k0, b0, s0, -⟩ := alloc_blk (Below.refl w.heap.size w) (Nat.le_refl _) #[.int .i64 op, .string kd, .slice ca cs.length cc, .int .i64 lo, .int .i64 hi, .slice ka kl kc] 43
    generalize w.alloc (.cells #[.int .i64 op, .string kd, .slice ca cs.length cc, .int .i64 lo, .int .i64 hi, .slice ka kl kc] 43) = W0 at *
    obtain ⟨k1, b1, s1, f1⟩ := alloc_blk b0 (by omega) #[.int .i64 a, .int .i64 b, .int .i64 c, .string k, .slice p L.length cp] 46
    rw [s0] at k1
    exact ⟨_, rfl, f1 _ _ _ k0, k1, b1⟩
  have W1 := Lib.hid hW1
  have B1h := Lib.hid BW
  have d2 : W.cell? ⟨w.heap.size, 2, none⟩ = some (.slice ca cs.length cc) := K0.cell 2
  have u4 : W.cell? ⟨w.heap.size + 1, 4, none⟩ = some (.slice p L.length cp) := K1.cell 4
  have SS : Hid (SNE w.heap.size (.int .i64 op) (.string kd) (.slice ca cs.length cc) (.int .i64 lo) (.int .i64 hi) (.slice ka kl kc) (.int .i64 a) (.int .i64 b) (.int .i64 c) (.string k) (.slice p L.length cp) W.drew) :=
    Lib.hid ⟨K0.cell 0, K0.cell 1, K0.cell 2, K0.cell 3, K0.cell 4, K0.cell 5, K1.cell 0, K1.cell 1, K1.cell 2, K1.cell 3, K1.cell 4⟩
  have hzW : w.heap.size + 1 < W.heap.size := K1.lt
  have HX := Lib.hid hx
  have HCS := Lib.hid hcs
  have HS := Lib.hid hS
  have HWf := Lib.hid hW
  have HC := Lib.hid hC
  clear hW1 K0 K1 BW hcs hx hS hW hC
  by_cases hfew : cs.length ≤ 20 ∧ L.length ≤ 100
  · obtain ⟨h20, h100⟩ := hfew
    have AA := Lib.hid (fun (W : World) (hb : Below w.heap.size w W) => atom_any op kd ca cc lo hi (.slice ka kl kc) cs a b c k p cp L (HCS.out.below hb) h100 (by omega) (HX.out.below hb) HS.out HWf.out HC.out)
    have ND := Lib.hid (fun (W : World) (hb : Below w.heap.size w W) => node_any op lo hi kd ka kl kc ca cc cs W (by omega) (HCS.out.below hb))
    have RF := Lib.hid (fun W (hb : Below w.heap.size w W) => show Calls Tryz.prog 20 #[.agg #[.int .i64 a, .int .i64 b, .int .i64 c, .string k, .slice p L.length cp]] W (fun e w' => ∃ p' cp', e = .returned (.agg #[.int .i64 a, .int .i64 b, .int .i64 c, .string k, .slice p' L.length cp']) ∧ Flds w' p' L ∧ Below W.heap.size W w') from ref_any a b c k p cp L W h100 (HX.out.below hb))
    have RA := Lib.hid (fun (W : World) ca' cc' p' cp' (h1 : Cnds W ca' cs) (h2 : Flds W p' L) => ratom_any op kd ca' cc' lo hi (.slice ka kl kc) cs a b c k p' cp' L h1 h100 (by omega) h2 HWf.out HC.out)
    generalize atomE op kd k cs L = r at *
    unfold ndV evV at AA RA ⊢
    unfold ndV at ND
    have h20I : ¬ (20 : Int) < (cs.length : Int) := by omega
    have h100I : ¬ (100 : Int) < (L.length : Int) := by omega
    generalize hn : L.length = n at *
    have HN := Lib.hid hn
    generalize hmm : cs.length = m at *
    have HM := Lib.hid hmm
    clear hn hmm HX HCS HS HWf HC
    generalize hy : w.heap.size = Y at *
    have B0h : Hid (Below Y w W.drew) := Lib.hid B1h.out.drew
    go_enter Tryz.func5, Tryz.ntmps5
    go_wp2_with fail
    rw [← W1.out]
    go_wp2_with fail
    have S1 := SS.out
    clear d2 u4
    go_region_held3 (fun w' => w'.cell? ⟨Y, 0, none⟩ = some (.int .i64 op) ∧ w'.cell? ⟨Y, 1, none⟩ = some (.string kd) ∧ w'.cell? ⟨Y, 2, none⟩ = some (.slice ca m cc) ∧ w'.cell? ⟨Y, 3, none⟩ = some (.int .i64 lo) ∧ w'.cell? ⟨Y, 4, none⟩ = some (.int .i64 hi) ∧ w'.cell? ⟨Y, 5, none⟩ = some (.slice ka kl kc) ∧ w'.cell? ⟨Y + 1, 0, none⟩ = some (.int .i64 a) ∧ w'.cell? ⟨Y + 1, 1, none⟩ = some (.int .i64 b) ∧ w'.cell? ⟨Y + 1, 2, none⟩ = some (.int .i64 c) ∧ w'.cell? ⟨Y + 1, 3, none⟩ = some (.string k) ∧ w'.cell? ⟨Y + 1, 4, none⟩ = some (.slice p n cp))
        (first | exact S1 | assumption | (refine SNE.below ?_ b8; assumption) | (refine SNE.below ?_ b7; assumption) | (refine SNE.below ?_ b6; assumption) | (refine SNE.below ?_ b5; assumption) | (refine SNE.below ?_ b2; assumption))
        (first
          | (go_at_call 9; refine (awake_any _).mono ?_; rintro e w2 ⟨rfl, b2⟩; have B2h : Hid (Below Y w w2) := Lib.hid (B0h.out.trans (b2.mono (by have := B0h.out.size; omega))))
          | (go_at_call 17; (with_reducible refine (AA.out _ B2h.out).mono ?_); rintro e w5 ⟨rfl, b5⟩; have B5h : Hid (Below Y w w5) := Lib.hid (B2h.out.trans (b5.mono (by have := B2h.out.size; omega))))
          | (go_at_call 19; (with_reducible refine (ND.out _ B5h.out).mono ?_); rintro e w6 ⟨a6, c6, rfl, F6, b6⟩; have F6h := Lib.hid F6; have B6h : Hid (Below Y w w6) := Lib.hid (B5h.out.trans (b6.mono (by have := B5h.out.size; omega))); clear F6)
          | (go_at_call 20; (with_reducible refine (RF.out _ B6h.out).mono ?_); rintro e w7 ⟨p7, cp7, rfl, F7, b7⟩; have F7h := Lib.hid F7; have C7h := Lib.hid (F6h.out.below b7); have B7h : Hid (Below Y w w7) := Lib.hid (B6h.out.trans (b7.mono (by have := B6h.out.size; omega))); clear F7)
          | (go_at_call 18; (with_reducible refine (RA.out _ _ _ _ _ C7h.out F7h.out).mono ?_); rintro e w8 ⟨rfl, b8⟩; have B8h : Hid (Below Y w w8) := Lib.hid (B7h.out.trans (b8.mono (by have := B7h.out.size; omega)))))
    all_goals (go_wp2_with fail; go_ret; exact ⟨ret_bool (by simp), B8h.out⟩)
  · have hT : (20 : Int) < (cs.length : Int) ∨ (¬ (20 : Int) < (cs.length : Int) ∧ (100 : Int) < (L.length : Int)) := by omega
    generalize L.length = n at *
    generalize cs.length = m at *
    generalize hy : w.heap.size = Y at *
    unfold ndV evV
    have hYW : Y ≤ W.heap.size := by omega
    clear SS hfew
    rcases hT with hT | ⟨hT, hT2⟩
    all_goals
      go_enter Tryz.func5, Tryz.ntmps5
      go_wp2_with fail
      rw [← W1.out]
      go_wp2_with fail
      refine (awake_any _).mono ?_
      rintro e w2 ⟨rfl, b2⟩
      have B2h : Hid (Below Y w w2) := Lib.hid (B1h.out.trans (b2.mono hYW))
      clear b2
      go_wp2_with fail
      go_ret
      exact ⟨rfl, B2h.out⟩
end Go.Proofs.YtkajadkmdcalmaaGreatDoor
/-
  WHAT EVERY ROW OF THIS SEAT LISTS.
-/
namespace Go.Proofs.YtkajadkmdcalmaaGreatDoor
open Go.ChangeShapes Go.WideShapes Go.ChangeAt Go.RowKit
def laid3 : List (String × DataW Unit) := [("math/bits.deBruijn32tab", Rows.laid_math_bits_deBruijn32tab), ("math/bits.deBruijn64tab", Rows.laid_math_bits_deBruijn64tab), ("internal/strconv.uint64pow10", Rows.laid_internal_strconv_uint64pow10)]
theorem door_met (os : Os) (args : Array Value) : laidMetH Tryz.prog laid3 ((World.doorLaid Tryz.prog 400 os).forCall (fun _ _ => 0) ⟨#[], args, []⟩).memory :=
  laidMetH_of_parts3 (fuel := 8) (laidMet_of_run' 8 (by kernel_rfl) (by kernel_rfl)) (by kernel_rfl) (by kernel_rfl)
end Go.Proofs.YtkajadkmdcalmaaGreatDoor
