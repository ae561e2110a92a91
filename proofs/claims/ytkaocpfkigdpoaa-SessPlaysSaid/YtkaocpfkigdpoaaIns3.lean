/-
  slices.Insert in the midst, where there is no room; slices.Insert, wherever.
-/
import Derived.Test.YtkaocpfkigdpoaaIns2
import Derived.Shelf.Spec.SlicesInsertGrow
namespace Go.Proofs.Ytkaocpfkigdpoaa
open Go.RowKit Go.Shelf
/-- the cells behind an insertion, in a new row -/
theorem grow_cells (L : List Sn) (p : Nat) (x : Sn) (C C1 : List Value) (hp : p < L.length) (hC : C.take (p * 2) = cells (L.take p)) (_hn : (L.length + 1) * 2 ≤ C.length)
    (h1 : C1 = C.take (p * 2) ++ enc x ++ C.drop (p * 2 + (enc x).length)) :
    (C1.take ((p + 1) * 2) ++ cells (L.drop p) ++ C1.drop ((p + 1) * 2 + (cells (L.drop p)).length)).take ((L.length + 1) * 2) = cells (L.take p ++ x :: L.drop p) := by
  have e1 : (cells (L.drop p)).length = (L.length - p) * 2 := by rw [cells_len, List.length_drop]
  have e2 : (enc x).length = 2 := rfl
  have e3 : (cells (L.take p)).length = p * 2 := by rw [cells_len, List.length_take]; omega
  have a1 : C1.take ((p + 1) * 2) = cells (L.take p) ++ enc x := by
    rw [h1, hC, List.take_append_of_le_length (by rw [List.length_append, e3, e2]; omega), List.take_of_length_le (by rw [List.length_append, e3, e2]; omega)]
  rw [a1, List.take_append_of_le_length (by rw [List.length_append, List.length_append, e1, e2, e3]; omega), List.take_of_length_le (by rw [List.length_append, List.length_append, e1, e2, e3]; omega), cells_append, cells_cons, List.append_assoc]
set_option maxHeartbeats 4000000 in
set_option maxRecDepth 100000 in
theorem insert_grow {w : World} {B vb g cap p : Nat} {L : List Sn} {x : Sn} (h : Own w B (.slice (some ⟨g, 0, none⟩) L.length cap) L) (hB : B ≤ w.heap.size) (hv : Blk w vb 62 (enc x).toArray) (hl : L.length ≤ 1000) (hp : p < L.length) (hroom : ¬ L.length + 1 ≤ cap) :
    Calls Try.prog 28 #[.slice (some ⟨g, 0, none⟩) L.length cap, .int .i64 p, .slice (some ⟨vb, 0, none⟩) 1 1] w (Insd w B (.slice (some ⟨g, 0, none⟩) L.length cap) (L.take p ++ x :: L.drop p)) := by
  obtain ⟨g', cap', cur, e, hBg, hg, hnc, hcm, hcs, hct⟩ : ∃ g' cap' cur, (Value.slice (some ⟨g, 0, none⟩) L.length cap) = .slice (some ⟨g', 0, none⟩) L.length cap' ∧ B ≤ g' ∧ w.heap[g']? = some (.cells cur 62 (0, 0)) ∧ L.length ≤ cap' ∧ cap' ≤ maxLen ∧ cur.size = cap' * 2 ∧ cur.toList.take (L.length * 2) = cells L := by
    rcases h.2 with ⟨h', _⟩ | ⟨g', cap', cur, h'⟩
    · simp at h'
    · exact ⟨g', cap', cur, h'⟩
  simp only [Value.slice.injEq, Option.some.injEq, Addr.mk.injEq, and_true, true_and] at e
  obtain ⟨rfl, rfl⟩ := e
  have G : Blk w g 62 cur := hg
  obtain ⟨i0, hi, hz0, hz1, hz2⟩ := info_parts info62
  have hdl : (cells (L.drop p)).length = (L.length - p) * 2 := by rw [cells_len, List.length_drop]
  have htl : (cells (L.take p)).length = p * 2 := by rw [cells_len, List.length_take]; omega
  have hold : (Builtin.firstCells i0.size p (.slice (some ⟨g, 0, none⟩) p cap)).run Try.prog w.drew = .ok (cells (L.take p)).toArray w.drew := by
    rw [hz1]
    refine run_firstCells_some w.drew 2 p ⟨g, 0, none⟩ p cap (cells (L.take p)) htl fun j u hj => ?_
    have hjl : j < p * 2 := by rw [← htl]; exact (List.getElem?_eq_some_iff.1 hj).1
    rw [add2, show (w.drew).cell? ⟨g, 0 + j, none⟩ = w.cell? ⟨g, 0 + j, none⟩ from rfl, G.cell, Nat.zero_add, ← Array.getElem?_toList]
    rw [← cells_take, List.getElem?_take, if_pos hjl, ← hct, List.getElem?_take, if_pos (by omega)] at hj
    exact hj
  have hpk : p + (L.length + 1 - p) = L.length + 1 := by omega
  have hrz := fun ty => Lib.run_append_grow_zeros w 44 3 ty 62 i0 _ .i64 .i64 Try.underlying44 Try.underlying3 hi hz0 (some ⟨g, 0, none⟩) p cap (cells (L.take p)) hold (L.length + 1 - p) (by omega) (by omega) (by omega) (by omega) (by rw [hz2]; omega) (by rw [hz2, hpk]; exact growslice_fits (need := L.length + 1) (old := cap) (by omega) (by omega))
  rw [hpk] at hrz
  obtain ⟨gc, hgc⟩ : ∃ gc, gc = grownCap w (L.length + 1) cap 62 := ⟨_, rfl⟩
  have hge : L.length + 1 ≤ gc := by rw [hgc]; exact grownCap_ge _ _ _ _
  have hgm : gc ≤ maxLen := by rw [hgc]; exact grownCap_le_maxLen _ _ _ _ (by unfold maxLen; omega)
  rw [← hgc] at hrz
  obtain ⟨R, hR⟩ : ∃ R : Array Value, R = (cells (L.take p)).toArray ++ Builtin.zeroCells (Value.agg #[.int .i64 0, .int .i64 0]).cells (L.length + 1 - p) ++ Builtin.zeroCells (Value.agg #[.int .i64 0, .int .i64 0]).cells (gc - (L.length + 1)) := ⟨_, rfl⟩
  have hRs : R.size = gc * 2 := by
    rw [hR, Array.size_append, Array.size_append, size_zeroCells, size_zeroCells, List.size_toArray, htl, show (Value.agg #[.int .i64 0, .int .i64 0]).cells.size = 2 from rfl]; omega
  have hRt : R.toList.take (p * 2) = cells (L.take p) := by
    rw [hR, Array.toList_append, Array.toList_append, List.append_assoc, List.take_append_of_le_length (by simp [htl]), List.take_of_length_le (by simp [htl])]
  have hRl : R.toList.length = gc * 2 := by rw [Array.length_toList]; exact hRs
  rw [← hR] at hrz
  clear hR hold
  obtain ⟨R1, hR1⟩ : ∃ R1 : Array Value, R1 = (R.toList.take (p * 2) ++ enc x ++ R.toList.drop (p * 2 + (enc x).length)).toArray := ⟨_, rfl⟩
  have hR1s : R1.size = gc * 2 := by
    rw [hR1, List.size_toArray, List.length_append, List.length_append, List.length_take, List.length_drop, show (enc x).length = 2 from rfl]; omega
  have hR1l : R1.toList.length = gc * 2 := by rw [Array.length_toList]; exact hR1s
  obtain ⟨R2, hR2⟩ : ∃ R2 : Array Value, R2 = (R1.toList.take ((p + 1) * 2) ++ cells (L.drop p) ++ R1.toList.drop ((p + 1) * 2 + (cells (L.drop p)).length)).toArray := ⟨_, rfl⟩
  have hR2s : R2.size = gc * 2 := by
    rw [hR2, List.size_toArray, List.length_append, List.length_append, List.length_take, List.length_drop, hdl]; omega
  have FIN : Hid (∀ W2, Blk W2 w.heap.size 62 R2 → Below w.heap.size w W2 → Insd w B (.slice (some ⟨g, 0, none⟩) L.length cap) (L.take p ++ x :: L.drop p) (.returned (.slice (some ⟨w.heap.size, 0, none⟩) (L.length + 1) gc)) W2) := Lib.hid fun W2 k2 b2 => by
    have hlen : (L.take p ++ x :: L.drop p).length = L.length + 1 := by simp; omega
    refine ⟨_, rfl, ?_, Fr.of_below b2 _, .inr (fun q hq => by
      have : w.heap.size = q := by simpa [Value.ownBlock] using hq
      omega)⟩
    rw [← hlen]
    refine own_of hB k2 (by rw [hlen]; exact hge) hgm hR2s ?_
    rw [hlen, hR2, List.toList_toArray]
    exact grow_cells L p x R.toList R1.toList hp hRt (by omega) (by rw [hR1, List.toList_toArray])
  have HA : Hid (∀ W, Blk W w.heap.size 62 R → Blk W vb 62 (enc x).toArray → ∀ ty dc, (Builtin.copy_ #[44, 44] ty #[.slice (some ⟨w.heap.size, p * 2, none⟩) (L.length + 1 - p) dc, .slice (some ⟨vb, 0, none⟩) 1 1]).run Try.prog W = .ok (goInt ((1 : Nat) : Int)) (W.setRow w.heap.size R1)) := Lib.hid fun W k kv ty dc => by
    have := run_copy2 W ty w.heap.size (p * 2) (L.length + 1 - p) dc ⟨vb, 0, none⟩ 1 1 R 62 (enc x) k (by simp only [Nat.min_def]; split <;> (first | omega | rfl)) (enc_at kv) (by show _ + 2 ≤ _; omega) (enc_one x)
    rw [← hR1] at this
    rw [this, show Nat.min 1 (L.length + 1 - p) = 1 by simp only [Nat.min_def]; split <;> omega]
  have HB : Hid (∀ W, Blk W w.heap.size 62 R1 → Blk W g 62 cur → ∀ ty dc sc, (Builtin.copy_ #[44, 44] ty #[.slice (some ⟨w.heap.size, (p + 1) * 2, none⟩) (L.length - p) dc, .slice (some ⟨g, p * 2, none⟩) (L.length - p) sc]).run Try.prog W = .ok (goInt ((L.length - p : Nat) : Int)) (W.setRow w.heap.size R2)) := Lib.hid fun W k kg ty dc sc => by
    have := run_copy2 W ty w.heap.size ((p + 1) * 2) (L.length - p) dc ⟨g, p * 2, none⟩ (L.length - p) sc R1 62 (cells (L.drop p)) k (by rw [hdl]; simp) (fun j u hj => by
      have hjl : j < (L.length - p) * 2 := by rw [← hdl]; exact (List.getElem?_eq_some_iff.1 hj).1
      rw [add2, kg.cell, ← Array.getElem?_toList]
      rw [← cells_drop, List.getElem?_drop, ← hct, List.getElem?_take, if_pos (by omega)] at hj
      exact hj) (by rw [hdl]; omega) (cells_one _)
    rw [← hR2] at this
    rw [this, show Nat.min (L.length - p) (L.length - p) = L.length - p by simp]
  have hgH : g ≠ w.heap.size := Nat.ne_of_lt G.lt
  have hvH : vb ≠ w.heap.size := Nat.ne_of_lt hv.lt
  obtain ⟨W1, hW1⟩ : ∃ W1, W1 = (w.alloc (.cells R 62)).drew := ⟨_, rfl⟩
  have K0 : Blk W1 w.heap.size 62 R := by rw [hW1]; exact Blk.new w 62 R
  have Kv : Blk W1 vb 62 (enc x).toArray := by rw [hW1]; exact hv.next ((Below.refl w.heap.size w).alloc (Nat.le_refl _) _).drew
  have Kg : Blk W1 g 62 cur := by rw [hW1]; exact G.next ((Below.refl w.heap.size w).alloc (Nat.le_refl _) _).drew
  have BA : Below w.heap.size w W1 := by rw [hW1]; exact ((Below.refl w.heap.size w).alloc (Nat.le_refl _) _).drew
  have fr2 : ∀ (W : World) (cs : Array Value), Below w.heap.size W (W.setRow w.heap.size cs).drew := fun W cs => ⟨rfl, rfl, rfl, by show _ ≤ (W.setRow w.heap.size cs).heap.size; simp, fun q hq => setRow_other _ _ _ _ (Nat.ne_of_lt hq)⟩
  have HCA := Lib.hid (HA.out W1 K0 Kv)
  have K1 : Blk (W1.setRow w.heap.size R1).drew w.heap.size 62 R1 := K0.row
  have Kg1 : Blk (W1.setRow w.heap.size R1).drew g 62 cur := Kg.below (fr2 W1 R1) G.lt
  have HCB := Lib.hid (HB.out _ K1 Kg1)
  have BF := Lib.hid (BA.trans ((fr2 W1 R1).trans (show Below w.heap.size (W1.setRow w.heap.size R1).drew ((W1.setRow w.heap.size R1).drew.setRow w.heap.size R2) from ⟨rfl, rfl, rfl, by simp, fun q hq => setRow_other _ _ _ _ (Nat.ne_of_lt hq)⟩)))
  have KF := Lib.hid (FIN.out _ (Blk.row K1) BF.out)
  have hW2 : W1 = w.drew.alloc (.cells R 62) := hW1
  rw [← hW2] at hrz
  clear K0 Kv Kg BA K1 Kg1 fr2 HA HB FIN BF hW1 hW2
  clear h hv hR1 hR2 G hg hct hcs hRs hRt hRl hR1s hR1l hR2s hgc hdl htl hpk hz0 hz1 hz2 hi
  have hcap : (cap : Int) ≤ 9223372036854775807 := by unfold maxLen at hcm; omega
  have hgcI : (gc : Int) ≤ 9223372036854775807 := by unfold maxLen at hgm; omega
  generalize L.length = n at *
  generalize Insd w B (Value.slice (some ⟨g, 0, none⟩) n cap) (L.take p ++ x :: L.drop p) = Q at *
  have mixed : Try.prog.follows .mixedOrders = true := by kernel_rfl
  obtain rfl : cap = n := by omega
  have hz2 : ¬ ((p : Int) = (cap : Int)) := by omega
  have hw1 : IntKind.i64.wrap ((p : Int) + 1) = (p : Int) + 1 := by rw [IntKind.wrap_i64]; omega
  have hkk : (cap : Int) + 1 - (p : Int) = ((cap + 1 - p : Nat) : Int) := by omega
  have htn : ((p : Int) + 1).toNat = p + 1 := by omega
  have hb2 : ¬ (gc = p + 1) := by omega
  have hb4 : ¬ (cap = p) := by omega
  have hb5 : ¬ (gc = p) := by omega
  have hb1 : (0 : Int) ≤ (p : Int) + 1 := by omega
  have hpn : p ≤ cap := by omega
  have hpI : (p : Int) ≤ (cap : Int) + 1 := by omega
  have hcpA := HCA.out
  have hcpB := HCB.out
  go_enter Try.func28, Try.ntmps28
  go_wp2_with (first
    | (at_builtin; refine Lib.wpList_append_run _ rfl _ _ _ _ rfl _ _ rfl rfl _ _ (hrz _) ?_)
    | (at_builtin; refine wpList_copy_runI _ rfl _ _ 44 44 rfl _ _ rfl rfl (hcpA _ _) ?_))
  go_region_law (refine step_copy_runI rfl _ _ 44 44 rfl _ _ (by simp [Act.eval, Act.put]) (by simp [Act.eval, Act.put]) (hcpB _ _ _) ?_)
  go_wp2_with fail
  exact KF.out
theorem insert_any {w : World} {B vb p : Nat} {v : Value} {L : List Sn} {x : Sn} (h : Own w B v L) (hB : B ≤ w.heap.size) (hv : Blk w vb 62 (enc x).toArray) (hne : v.ownBlock ≠ some vb) (hl : L.length ≤ 1000) (hp : p ≤ L.length) :
    Calls Try.prog 28 #[v, .int .i64 p, .slice (some ⟨vb, 0, none⟩) 1 1] w (Insd w B v (L.take p ++ x :: L.drop p)) := by
  by_cases e : p = L.length
  · subst e
    rw [List.take_length, List.drop_length]
    exact insert_end h hB hv hl
  · obtain ⟨g, cap, rfl, _, _⟩ := World.ownsRow.form h (by omega)
    by_cases hr : L.length + 1 ≤ cap
    · exact insert_room h hv (fun e => hne (by rw [e]; rfl)) hl (by omega) hr
    · exact insert_grow h hB hv hl (by omega) hr
end Go.Proofs.Ytkaocpfkigdpoaa
