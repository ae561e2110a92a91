/-
  WHAT IS REACHED: the program's.
-/
import Derived.Test.YtnlpmapnlhkpkaaCnd
import Derived.Test.YtnlpmapnlhkpkaaCso
import Derived.Test.YtnlpmapnlhkpkaaCbp
namespace Go.Proofs.Ytnlpmapnlhkpkaa
open Go.RowKit
theorem size_al (w : World) (o : Obj) : (w.alloc o).heap.size = w.heap.size + 1 := by simp
def Blk (w : World) (g : Nat) (t : TypeId) (cs : Array Value) : Prop := w.heap[g]? = some (.cells cs t (0, 0))
section
variable {w w' : World} {g : Nat} {t : TypeId} {cs : Array Value}
theorem Blk.lt (h : Blk w g t cs) : g < w.heap.size := by
  rcases Nat.lt_or_ge g w.heap.size with hlt | hge
  · exact hlt
  · unfold Blk at h; rw [Array.getElem?_eq_none hge] at h; cases h
theorem Blk.cell (h : Blk w g t cs) (i : Nat) : w.cell? ⟨g, i, none⟩ = cs[i]? := cell_of_row w g i cs t (0, 0) h
theorem Blk.free (h : Blk w g t cs) (i : Nat) : w.frozen? ⟨g, i, none⟩ = false := by
  unfold Blk at h
  simp [World.frozen?, h]
theorem Blk.new (w : World) (t : TypeId) (cs : Array Value) : Blk (w.alloc (.cells cs t)) w.heap.size t cs := heap_alloc_new w _
theorem Blk.drew (h : Blk w g t cs) : Blk w.drew g t cs := h
theorem Blk.alloc (h : Blk w g t cs) (o : Obj) : Blk (w.alloc o) g t cs := (Below.heap_alloc w o g h.lt).trans h
theorem Blk.set_ (h : Blk w g t cs) (i : Nat) (u : Value) : Blk (w.setCell ⟨g, i, none⟩ u) g t (cs.setIfInBounds i u) := by
  unfold Blk at h ⊢
  simp [World.setCell, Array.getElem?_modify, h]
theorem Blk.below {B : Nat} (h : Blk w g t cs) (hb : Below B w w') (hg : g < B) : Blk w' g t cs := (hb.block g hg).trans h
end
theorem Ints.set_ {w : World} {B : Nat} {a : Option Addr} {xs : List Int} (h : Ints w B a xs) {g : Nat} (hg : g < B) (i : Nat) (u : Value) : Ints (w.setCell ⟨g, i, none⟩ u) B a xs := fun k hk => by
  obtain ⟨q, o, e, hB, hl, hc⟩ := h k hk
  refine ⟨q, o, e, hB, by simpa [World.setCell] using hl, ?_⟩
  rw [World.cell?_setCell_other w _ _ u (fun e => by injection e with e1 e2; omega)]
  exact hc
/-- the array when so many were put to the front -/
def arrAt (k : Nat) (V : List Int) (j : Nat) : List Int := (((ndL k).take j).map fun x => V.getD x.toNat 0) ++ V.drop j
def cellsOf (l : List Int) : Array Value := (l.map (Value.int .i64)).toArray
theorem cellsOf_get (l : List Int) (i : Nat) (h : i < l.length) : (cellsOf l)[i]? = some (.int .i64 l[i]) := by simp [cellsOf, h]
theorem arrAt_len {k : Nat} {V : List Int} {j : Nat} (hV : V.length = 7) (hj : j ≤ sz k) : (arrAt k V j).length = 7 := by
  have := sz_le k
  unfold arrAt
  rw [List.length_append, List.length_map, List.length_take, List.length_drop, ndL_len]
  omega
theorem ndL_ge (k j : Nat) (h : j < (ndL k).length) : ∃ x : Nat, (ndL k)[j] = (x : Int) ∧ j ≤ x ∧ x < 7 := by
  have hl : j < (nodesL k).length := by unfold ndL ndTo at h; rw [List.length_map] at h; exact h
  have e : (ndL k)[j] = ((nodesL k)[j] : Int) := by simp only [ndL, ndTo, List.getElem_map]; rfl
  refine ⟨(nodesL k)[j], e, ?_, (nodesTo_mem.1 (List.getElem_mem hl)).1⟩
  have hs := List.pairwise_iff_getElem.1 (nodesTo_sorted k 7)
  clear e h
  induction j with
  | zero => exact Nat.zero_le _
  | succ j ih =>
    have h1 := ih (by omega)
    have h2 := hs j (j + 1) (by show j < (nodesL k).length; omega) hl (by omega)
    have h3 : (nodesL k)[j]'(by omega) < (nodesL k)[j + 1] := h2
    omega
theorem arrAt_old {k : Nat} {V : List Int} {j i : Nat} (hj : j ≤ (ndL k).length) (hi : j ≤ i) : (arrAt k V j)[i]? = V[i]? := by
  unfold arrAt
  rw [List.getElem?_append_right (by rw [List.length_map, List.length_take]; omega), List.length_map, List.length_take, List.getElem?_drop]
  congr 1
  omega
theorem arrAt_set {k : Nat} {V : List Int} {j x : Nat} (hj : j < (ndL k).length) (hx : (ndL k)[j] = (x : Int)) (hjV : j < V.length) (hxV : x < V.length) :
    (cellsOf (arrAt k V j)).setIfInBounds j (.int .i64 V[x]) = cellsOf (arrAt k V (j + 1)) := by
  unfold cellsOf
  rw [List.setIfInBounds_toArray, ← List.map_set]
  congr 2
  unfold arrAt
  rw [List.take_succ_eq_append_getElem hj, List.map_append, List.set_append, if_neg (by rw [List.length_map, List.length_take]; omega), List.length_map, List.length_take, Nat.min_eq_left (by omega), Nat.sub_self]
  rw [List.drop_eq_getElem_cons hjV, List.set_cons_zero, hx, List.append_assoc]
  simp [hxV]
theorem arrAt_take (k : Nat) (V : List Int) : (arrAt k V (sz k)).take (sz k) = pk k (fun i => V.getD i 0) 7 := by
  unfold arrAt
  have hl : (ndL k).take (sz k) = ndL k := List.take_of_length_le (by rw [ndL_len]; exact Nat.le_refl _)
  rw [hl, List.take_left' (by rw [List.length_map, ndL_len])]
  unfold ndL ndTo pk
  rw [List.map_map]
  rfl
theorem sort_any (blk off cap : Nat) (zs : List Int) (w : World) (hH : Sort.Holds (Value.int .i64) w blk off zs.toArray) (hblk : blk < w.heap.size) (hsz : zs.length < 4611686018427387904) :
    Calls Try.prog 22 #[.slice (some ⟨blk, off, none⟩) zs.length cap] w fun e w' =>
      e = .returned (.tuple #[]) ∧ ∃ n os, w' = Sort.grow (Sort.putRow (Value.int .i64) (Sort.ahead w n) blk off (zs.mergeSort fun x y => decide (x ≤ y)).toArray) os := Try.slices_Sort_int blk off cap zs w hH hblk hsz
/-- the world behind a sort: what lies ahead is as it was, and the row holds what was sorted -/
theorem sorted_below {w : World} {B X n : Nat} {S : Array Int} {os : Array Obj} (hB : B ≤ X) (hX : X < w.heap.size) : Below B w (Sort.grow (Sort.putRow (Value.int .i64) (Sort.ahead w n) X 0 S) os) := by
  unfold Sort.putRow Sort.mapBlock Sort.grow Sort.ahead
  refine ⟨rfl, rfl, rfl, by simp, fun q hq => ?_⟩
  simp only
  rw [Array.getElem?_append_left (by simp; omega), Array.getElem?_modify, if_neg (by omega)]
theorem sorted_cell {w : World} {X n : Nat} {L S : List Int} {os : Array Obj} (hX : X < w.heap.size) (hH : Sort.Holds (Value.int .i64) w X 0 L.toArray) (hs : S.length = L.length) (j : Nat) (hj : j < L.length) :
    (Sort.grow (Sort.putRow (Value.int .i64) (Sort.ahead w n) X 0 S.toArray) os).cell? ⟨X, j, none⟩ = some (.int .i64 (S.getD j 0)) := by
  rw [Sort.cell?_grow _ _ _ (by rw [Sort.size_putRow]; exact hX)]
  have := Sort.cell?_putRow (Value.int .i64) (Sort.ahead w n) X 0 L.toArray S.toArray (Sort.holds_ahead _ _ _ _ _ _ hH) (by simp [hs]) j (by simp; omega)
  rw [Nat.zero_add] at this
  rw [this]
  congr 2
  rw [getElem!_pos _ j (by simp; omega), List.getD_eq_getElem?_getD, List.getElem?_eq_getElem (by omega)]
  simp
theorem len28 : Try.prog.arrayLen 28 = 7 := by kernel_rfl
theorem elem28 : Try.prog.elem 28 = 3 := by kernel_rfl
theorem run_front (X j : Nat) (h : j ≤ 7) (w : World) : (Instr.sliceAt 28 (.pointer (some ⟨X, 0, none⟩)) none (some (.int .i64 (j : Int))) none).run Try.prog w = .ok (.slice (some ⟨X, 0, none⟩) j 7) w := by
  have ht : Try.prog.underlying 28 = some (.array (Try.prog.arrayLen 28) (Try.prog.elem 28)) := by kernel_rfl
  rw [run_sliceAt_array_h w 28 ⟨X, 0, none⟩ ht .i64 (j : Int) (by omega) (by rw [len28]; omega), elem28, len28]
  obtain ⟨i, hi, _, hz1, _⟩ := info_parts info3
  simp [sizeOf, typeInfo, hi, hz1, slicedAt, Addr.add]
/-- behind so many rounds -/
structure RS (w wq : World) (k : Nat) (V : List Int) (a : Option Addr) (j : Nat) : Prop where
  b : Below w.heap.size w wq
  x : Blk wq w.heap.size 28 (cellsOf (arrAt k V j))
  i : Ints wq (w.heap.size + 1) a (ndL k)
theorem RS.step {w wq : World} {k : Nat} {V : List Int} {a : Option Addr} {j x : Nat} (h : RS w wq k V a j) (hj : j < (ndL k).length) (hx : (ndL k)[j] = (x : Int)) (hjV : j < V.length) (hxV : x < V.length) :
    RS w (wq.setCell ⟨w.heap.size, j, none⟩ (.int .i64 V[x])) k V a (j + 1) where
  b := h.b.setCell (Nat.le_refl _) _
  x := by have := h.x.set_ j (.int .i64 V[x]); rw [arrAt_set hj hx hjV hxV] at this; exact this
  i := h.i.set_ (by omega) _ _
theorem RS.at_ {w wq : World} {k : Nat} {V : List Int} {a : Option Addr} {j : Nat} (h : RS w wq k V a j) {i : Nat} (hj : j ≤ (ndL k).length) (hi : j ≤ i) (hiV : i < V.length) : wq.cell? ⟨w.heap.size, i, none⟩ = some (.int .i64 V[i]) := by
  rw [h.x.cell]
  have e := arrAt_old (V := V) hj hi
  rw [List.getElem?_eq_getElem hiV] at e
  unfold cellsOf
  simp [e]
set_option maxHeartbeats 1000000 in
theorem reached_any (m v0 v1 v2 v3 v4 v5 v6 : Int) (w : World) : Calls Try.prog 19 #[.int .i64 m, .agg #[.int .i64 v0, .int .i64 v1, .int .i64 v2, .int .i64 v3, .int .i64 v4, .int .i64 v5, .int .i64 v6]] w fun e w' => e = .returned (.int .i64 (reachedP (kn m) (fun i => [v0, v1, v2, v3, v4, v5, v6].getD i 0))) ∧ Below w.heap.size w w' := by
  obtain ⟨V, hV⟩ : ∃ V : List Int, V = [v0, v1, v2, v3, v4, v5, v6] := ⟨_, rfl⟩
  have hl : V.length = 7 := by rw [hV]; rfl
  have HV := Lib.hid hV
  have HL := Lib.hid hl
  clear hV hl
  have N0 := Lib.hid (Blk.new w 28 #[.int .i64 v0, .int .i64 v1, .int .i64 v2, .int .i64 v3, .int .i64 v4, .int .i64 v5, .int .i64 v6])
  have B0 := Lib.hid ((Below.refl w.heap.size w).alloc (Nat.le_refl _) (.cells #[.int .i64 v0, .int .i64 v1, .int .i64 v2, .int .i64 v3, .int .i64 v4, .int .i64 v5, .int .i64 v6] 28))
  go_enter Try.func19, Try.ntmps19
  go_wp2_with fail
  refine (nodes_any _ _).mono ?_
  rintro e w1 ⟨v, rfl, ho, hb⟩
  obtain ⟨a, c, rfl, hi, _⟩ := ho.ints
  have R0 : RS w w1 (kn m) V a 0 := ⟨B0.out.trans (hb.mono (by rw [size_al]; omega)), by have := N0.out.below hb (by rw [size_al]; omega); rw [show cellsOf (arrAt (kn m) V 0) = #[.int .i64 v0, .int .i64 v1, .int .i64 v2, .int .i64 v3, .int .i64 v4, .int .i64 v5, .int .i64 v6] by rw [HV.out]; rfl]; exact this, by have := hi; rw [size_al] at this; exact this⟩
  have RH := Lib.hid R0
  have NL := Lib.hid (ndL_len (kn m))
  have hle := sz_le (kn m)
  clear ho hb hi R0 N0 B0
  have hn : (ndL (kn m)).length ≤ 7 := by rw [NL.out]; exact hle
  go_wp2_with fail
  go_loopw [5, 11] (fun n i wq => ∃ j : Nat, j ≤ (ndL (kn m)).length ∧ n = .int .i64 j ∧ i = .int .i64 j ∧ RS w wq (kn m) V a j) (fun _ i _ => 7 - (intOf i).toNat)
  case atStart => exact ⟨0, by omega, rfl, rfl, RH.out⟩
  case round =>
    obtain ⟨j, hj, rfl, rfl, hr⟩ := hrel
    have RR := Lib.hid hr
    clear hr RH
    by_cases hlt : j < (ndL (kn m)).length
    · obtain ⟨x, hx, hjx, hx7⟩ := ndL_ge (kn m) j hlt
      obtain ⟨q, o, ha, hq1, hq2, hq3⟩ := RR.out.i j hlt
      rw [hx] at hq3
      have HA := Lib.hid ha
      have HX := Lib.hid hx
      subst ha
      have hcx := RR.out.at_ hj hjx (by rw [HL.out]; exact hx7)
      have hcj := RR.out.at_ hj (Nat.le_refl j) (by rw [HL.out]; omega)
      have hf := RR.out.x.free j
      have ST := Lib.hid (RR.out.step hlt hx (by rw [HL.out]; omega) (by rw [HL.out]; exact hx7))
      clear hx
      go_wp2_with fail
      go_roundw
      case rel => exact ⟨j + 1, by omega, by go_num, by go_num, ST.out⟩
      case measure => simp [intOf]; omega
    · have ej : j = (ndL (kn m)).length := by omega
      have J := Lib.hid (ej.trans NL.out)
      have hjl : ¬ j < (ndL (kn m)).length := hlt
      by_cases h0 : j = 0
      · subst h0
        have Z := Lib.hid (reached_none (fun i => [v0, v1, v2, v3, v4, v5, v6].getD i 0) J.out.symm)
        have h00 : (ndL (kn m)).length = 0 := ej.symm
        have BB := Lib.hid RR.out.b
        clear ej hlt hj
        go_wp2_with fail
        go_ret
        exact ⟨ret_i64 Z.out.symm, BB.out⟩
      · have hj7 : j ≤ 7 := by omega
        have hj1 : 0 < j := by omega
        have PL : Hid ((pk (kn m) (fun i => V.getD i 0) 7).length = j) := Lib.hid (by rw [pk_len, J.out]; rfl)
        have XL := Lib.hid (show w.heap.size < wr.heap.size from RR.out.x.lt)
        have HO : Hid (Sort.Holds (Value.int .i64) wr w.heap.size 0 (pk (kn m) (fun i => V.getD i 0) 7).toArray) := Lib.hid (fun i hi => by
          have hi2 : i < (pk (kn m) (fun i => V.getD i 0) 7).length := by simpa using hi
          have hi3 : i < sz (kn m) := by have := PL.out; have := J.out; omega
          refine ⟨?_, RR.out.x.free _⟩
          rw [Nat.zero_add, RR.out.x.cell, J.out]
          have e1 := arrAt_take (kn m) V
          have hlen := arrAt_len (k := kn m) (V := V) HL.out (Nat.le_refl _)
          rw [cellsOf_get _ _ (by omega)]
          congr 2
          have e2 : (pk (kn m) (fun i => V.getD i 0) 7)[i] = ((arrAt (kn m) V (sz (kn m))).take (sz (kn m)))[i]'(by rw [e1]; exact hi2) := by simp only [e1]
          rw [getElem!_pos _ i hi, List.getElem_toArray, e2, List.getElem_take])
        have SA := Lib.hid (fun (hl : (pk (kn m) (fun i => V.getD i 0) 7).length = j) => hl ▸ sort_any w.heap.size 0 7 (pk (kn m) (fun i => V.getD i 0) 7) wr HO.out XL.out (by have := PL.out; omega))
        have RF := run_front w.heap.size j hj7
        clear ej hlt
        go_wp2_with fail
        refine (SA.out PL.out).mono ?_
        rintro e w2 ⟨rfl, n, os, hw2⟩
        have B2 : Hid (Below w.heap.size wr w2) := Lib.hid (by rw [hw2]; exact sorted_below (Nat.le_refl _) XL.out)
        have Q2 : Hid (w2.cell? ⟨w.heap.size, (j - 1) / 2, none⟩ = some (.int .i64 (reachedP (kn m) fun i => V.getD i 0))) := Lib.hid (by
          rw [hw2, sorted_cell XL.out HO.out (by rw [List.length_mergeSort]) _ (by have := PL.out; omega)]
          unfold reachedP
          rw [← J.out])
        have BB := Lib.hid (RR.out.b.trans B2.out)
        clear hw2 SA
        have ix : (((j : Int) - 1) / 2).toNat = (j - 1) / 2 := by omega
        have c2 := Q2.out
        have i7 : ((j : Int) - 1) / 2 < 7 := by omega
        have i0 : 0 ≤ ((j : Int) - 1) / 2 := by omega
        go_wp2_with fail
        go_ret
        exact ⟨ret_i64 (by have := HV.out; subst this; rfl), BB.out⟩
end Go.Proofs.Ytnlpmapnlhkpkaa
