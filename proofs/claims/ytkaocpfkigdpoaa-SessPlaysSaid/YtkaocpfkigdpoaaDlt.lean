/-
  slices.Delete of one session; slices.Clone.
-/
import Derived.Test.YtkaocpfkigdpoaaIns2
namespace Go.Proofs.Ytkaocpfkigdpoaa
open Go.RowKit Go.Shelf
theorem step_append_runI {P : Program} {ops : Array Oper} {o : Oper} {a : Act} {w : World} {K : Act → World → Prop} {Q : Exit → Act → World → Prop} {E : Prop}
    (hg : o.guard = none) (d x : Operand) (dT sT : TypeId) (hop : o.op = Op.call { callee := Callee.builtin Builtin.append, args := #[d, x], argTypes := #[dT, sT] })
    (v u : Value) (hd : a.eval d = v) (hx : a.eval x = u) {v' : Value} {w' : World} (hr : (Builtin.append_ #[dT, sT] o.type #[v, u]).run P w = .ok v' w') (hK : K (a.put o.dst v') w') :
    if Region.wanted o (yielded ops a.tmps) = true then Oper.wp P o a w K Q else E := by
  have hw : Region.wanted o (yielded ops a.tmps) = true := by simp [Region.wanted, hg]
  rw [if_pos hw]
  unfold Oper.wp
  simp [execOp, hop, resolve, invoke, builtin, hd, hx, hr, Result.andThen]
  exact hK
/-- the cells behind a deletion -/
theorem del_cells (L : List Sn) (p : Nat) (C C1 : List Value) (Z : List Value) (hp : p < L.length) (hC : C.take (L.length * 2) = cells L)
    (h1 : C1 = C.take (p * 2) ++ cells (L.drop (p + 1)) ++ C.drop (p * 2 + (cells (L.drop (p + 1))).length)) :
    (C1.take ((L.length - 1) * 2) ++ Z).take ((L.length - 1) * 2) = cells (L.take p ++ L.drop (p + 1)) := by
  have e1 : (cells (L.drop (p + 1))).length = (L.length - (p + 1)) * 2 := by rw [cells_len, List.length_drop]
  have hCl : L.length * 2 ≤ C.length := by
    have := congrArg List.length hC
    rw [List.length_take, cells_len] at this
    omega
  have a1 : C.take (p * 2) = cells (L.take p) := by
    rw [show p * 2 = min (p * 2) (L.length * 2) by omega, ← List.take_take, hC, cells_take]
  have e3 : (cells (L.take p)).length = p * 2 := by rw [cells_len, List.length_take]; omega
  have a2 : C1.take ((L.length - 1) * 2) = cells (L.take p) ++ cells (L.drop (p + 1)) := by
    rw [h1, a1, List.take_append_of_le_length (by rw [List.length_append, e3, e1]; omega), List.take_of_length_le (by rw [List.length_append, e3, e1]; omega)]
  rw [a2, List.take_append_of_le_length (by rw [List.length_append, e3, e1]; omega), List.take_of_length_le (by rw [List.length_append, e3, e1]; omega), cells_append]
set_option maxHeartbeats 4000000 in
set_option maxRecDepth 100000 in
theorem delete_any {w : World} {B p : Nat} {v : Value} {L : List Sn} (h : Own w B v L) (hl : L.length ≤ 1000) (hp : p < L.length) :
    Calls Try.prog 30 #[v, .int .i64 p, .int .i64 ((p : Int) + 1)] w (Insd w B v (L.take p ++ L.drop (p + 1))) := by
  obtain ⟨g, cap, cur, rfl, hBg, hg, hnc, hcm, hcs, hct⟩ : ∃ g cap cur, v = .slice (some ⟨g, 0, none⟩) L.length cap ∧ B ≤ g ∧ w.heap[g]? = some (.cells cur 62 (0, 0)) ∧ L.length ≤ cap ∧ cap ≤ maxLen ∧ cur.size = cap * 2 ∧ cur.toList.take (L.length * 2) = cells L := by
    rcases h.2 with ⟨_, h'⟩ | ⟨g', cap', cur, h'⟩
    · omega
    · exact ⟨g', cap', cur, h'⟩
  obtain ⟨i0, hi, hz0, hz1, hz2⟩ := info_parts info62
  have G : Blk w g 62 cur := hg
  have hdl : (cells (L.drop (p + 1))).length = (L.length - (p + 1)) * 2 := by rw [cells_len, List.length_drop]
  obtain ⟨cur1, hc1⟩ : ∃ cur1 : Array Value, cur1 = (cur.toList.take (p * 2) ++ cells (L.drop (p + 1)) ++ cur.toList.drop (p * 2 + (cells (L.drop (p + 1))).length)).toArray := ⟨_, rfl⟩
  have hcl : cur.toList.length = cap * 2 := by rw [Array.length_toList]; exact hcs
  have hs1 : cur1.size = cap * 2 := by
    rw [hc1, List.size_toArray, List.length_append, List.length_append, List.length_take, List.length_drop, hdl]; omega
  have hs1l : cur1.toList.length = cap * 2 := by rw [Array.length_toList]; exact hs1
  obtain ⟨W1, hW1⟩ : ∃ W1, W1 = w.drew.setRow g cur1 := ⟨_, rfl⟩
  have G1 : Blk W1 g 62 cur1 := by rw [hW1]; exact Blk.row (show Blk w.drew g 62 cur from hg)
  have FW1 : Fr w W1 (fun q => q = g) := by
    rw [hW1]
    exact (fr_drew w (fun q => q = g)).on (fr_row _ _ _)
  obtain ⟨A, hA, hsrc⟩ : ∃ A : Addr, (if cap = p + 1 then some (⟨g, 0, none⟩ : Addr) else some ⟨g, (p + 1) * 2, none⟩) = some A ∧ (∀ j u, (cells (L.drop (p + 1)))[j]? = some u → w.drew.cell? (A.add j) = some u) := by
    by_cases hc : cap = p + 1
    · refine ⟨⟨g, 0, none⟩, by rw [if_pos hc], fun j u hu => ?_⟩
      have h0 : (cells (L.drop (p + 1))).length = 0 := by rw [hdl]; omega
      rw [List.length_eq_zero_iff.1 h0] at hu
      simp at hu
    · refine ⟨⟨g, (p + 1) * 2, none⟩, by rw [if_neg hc], fun j u hj => ?_⟩
      have hjl : j < (L.length - (p + 1)) * 2 := by rw [← hdl]; exact (List.getElem?_eq_some_iff.1 hj).1
      rw [add2, show (w.drew).cell? ⟨g, (p + 1) * 2 + j, none⟩ = w.cell? ⟨g, (p + 1) * 2 + j, none⟩ from rfl, G.cell, ← Array.getElem?_toList]
      rw [← cells_drop, List.getElem?_drop, ← hct, List.getElem?_take, if_pos (by omega)] at hj
      exact hj
  have HAP : Hid (∀ ty c, (Builtin.append_ #[44, 44] ty #[.slice (some ⟨g, 0, none⟩) p cap, .slice (some A) (L.length - (p + 1)) c]).run Try.prog w.drew = .ok (.slice (some ⟨g, 0, none⟩) (p + (L.length - (p + 1))) cap) W1) := Lib.hid fun ty c => by
    have := run_append_room (P := Try.prog) w.drew 44 ty 62 i0 Try.underlying44 hi g p cap cur hg A (L.length - (p + 1)) c (cells (L.drop (p + 1))) (by rw [hz1]; exact hdl) hsrc (cells_one _) (by omega) (by rw [hz1, hdl]; omega)
    rw [hz1] at this
    rw [this, hW1, hc1]
  obtain ⟨cur2, hc2⟩ : ∃ cur2 : Array Value, cur2 = (cur1.toList.take ((L.length - 1) * 2) ++ (Builtin.zeroCells (Value.agg #[.int .i64 0, .int .i64 0]).cells 1).toList ++ cur1.toList.drop ((L.length - 1) * 2 + 1 * 2)).toArray := ⟨_, rfl⟩
  have hs2 : cur2.size = cap * 2 := by
    have hz : (Builtin.zeroCells (Value.agg #[.int .i64 0, .int .i64 0]).cells 1).toList.length = 2 := by rw [Array.length_toList, size_zeroCells]; rfl
    rw [hc2, List.size_toArray, List.length_append, List.length_append, List.length_take, List.length_drop, hz]; omega
  have HCL : Hid (∀ ty c, (Builtin.clear_ #[44] ty #[.slice (some ⟨g, (L.length - 1) * 2, none⟩) 1 c]).run Try.prog W1 = .ok (.tuple #[]) (W1.setRow g cur2)) := Lib.hid fun ty c => by
    rw [run_clear2 W1 ty g ((L.length - 1) * 2) 1 c cur1 62 G1 (by decide) (by omega), hc2]
  have FIN : Hid (Insd w B (.slice (some ⟨g, 0, none⟩) L.length cap) (L.take p ++ L.drop (p + 1)) (.returned (.slice (some ⟨g, 0, none⟩) (L.length - 1) cap)) (W1.setRow g cur2)) := by
    have hlen : (L.take p ++ L.drop (p + 1)).length = L.length - 1 := by rw [List.length_append, List.length_take, List.length_drop]; omega
    refine Lib.hid ⟨_, rfl, ?_, (FW1.on (fr_row W1 g cur2)).mono (fun q _ e => by subst e; rfl), .inl rfl⟩
    rw [← hlen]
    refine own_of hBg G1.row (by rw [hlen]; omega) hcm hs2 ?_
    rw [hlen, hc2, List.toList_toArray, List.append_assoc]
    exact del_cells L p cur.toList cur1.toList _ hp hct (by rw [hc1, List.toList_toArray])
  clear h hc1 hc2 G1 FW1 hW1 G hg hct hs1 hs2 hcl hs1l hdl hsrc hcs hi hz0 hz1 hz2
  have hcap : (cap : Int) ≤ 9223372036854775807 := by unfold maxLen at hcm; omega
  generalize L.length = n at *
  generalize Insd w B (Value.slice (some ⟨g, 0, none⟩) n cap) (L.take p ++ L.drop (p + 1)) = Q at *
  have mixed : Try.prog.follows .mixedOrders = true := by kernel_rfl
  have hw1 : IntKind.i64.wrap ((p : Int) + 1) = (p : Int) + 1 := by rw [IntKind.wrap_i64]; omega
  have htn : ((p : Int) + 1).toNat = p + 1 := by omega
  have hb1 : (0 : Int) ≤ (p : Int) + 1 := by omega
  have hb2 : (p : Int) + 1 ≤ (n : Int) := by omega
  have hb3 : (p : Int) ≤ (p : Int) + 1 := by omega
  have hb4 : ¬ ((p : Int) = (p : Int) + 1) := by omega
  have hpc : p ≤ cap := by omega
  have hpn : p + (n - (p + 1)) = n - 1 := by omega
  have hb5 : ¬ (cap = n - 1) := by omega
  have hb6 : n - (n - 1) = 1 := by omega
  have hap := HAP.out
  rw [hpn] at hap
  have hcl := HCL.out
  clear HAP HCL
  go_enter Try.func30, Try.ntmps30
  go_wp2_with fail
  go_region_law (refine step_append_runI rfl _ _ 44 44 rfl _ _ (by simp [Act.eval, Act.put]) (by simp [Act.eval, Act.put]) (hap 44 (cap - (p + 1))) ?_)
  go_wp2_with fail
  exact FIN.out
end Go.Proofs.Ytkaocpfkigdpoaa
