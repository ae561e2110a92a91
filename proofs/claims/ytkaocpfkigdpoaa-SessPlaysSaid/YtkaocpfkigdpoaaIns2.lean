/-
  slices.Insert in the midst, where there is room.
-/
import Derived.Test.YtkaocpfkigdpoaaIns
import Derived.Shelf.Spec.SlicesInsert
namespace Go.Proofs.Ytkaocpfkigdpoaa
open Go.RowKit Go.Shelf
theorem own_of {w : World} {B g cap : Nat} {cur : Array Value} {L : List Sn} (hB : B ≤ g) (hg : Blk w g 62 cur) (h1 : L.length ≤ cap) (h2 : cap ≤ maxLen) (h3 : cur.size = cap * 2) (h4 : cur.toList.take (L.length * 2) = cells L) : Own w B (.slice (some ⟨g, 0, none⟩) L.length cap) L :=
  ⟨cells_len L, .inr ⟨g, cap, cur, rfl, hB, hg, h1, h2, h3, h4⟩⟩
theorem Blk.row {w : World} {g : Nat} {t : TypeId} {cs cs' : Array Value} (h : Blk w g t cs) : Blk (w.setRow g cs') g t cs' := setRow_heap w g cs cs' t (0, 0) h
theorem fr_row (w : World) (g : Nat) (cs : Array Value) : Fr w (w.setRow g cs) (fun q => q = g) := ⟨rfl, rfl, rfl, by simp, fun q _ hne => setRow_other _ _ _ _ hne⟩
theorem add2 (g o j : Nat) : (⟨g, o, none⟩ : Addr).add j = ⟨g, o + j, none⟩ := by unfold Addr.add; split <;> simp_all
theorem size62 (w : World) : (Go.sizeOf 62).run Try.prog w = .ok 2 w := by
  obtain ⟨i0, hi, hz0, hz1, hz2⟩ := info_parts info62
  simp [sizeOf, typeInfo, hi, hz1]
/-- the cells behind an insertion, in place -/
theorem ins_cells (L : List Sn) (p : Nat) (x : Sn) (C : List Value) (hp : p < L.length) (hC : C.take (L.length * 2) = cells L) (hn : (L.length + 1) * 2 ≤ C.length) (C1 : List Value)
    (h1 : C1 = C.take ((p + 1) * 2) ++ cells (L.drop p) ++ C.drop ((p + 1) * 2 + (cells (L.drop p)).length)) :
    (C1.take (p * 2) ++ enc x ++ C1.drop (p * 2 + (enc x).length)).take ((L.length + 1) * 2) = cells (L.take p ++ x :: L.drop p) := by
  have e1 : (cells (L.drop p)).length = (L.length - p) * 2 := by rw [cells_len, List.length_drop]
  have e2 : (enc x).length = 2 := rfl
  have a1 : C1.take (p * 2) = cells (L.take p) := by
    rw [h1, List.append_assoc, List.take_append_of_le_length (by rw [List.length_take]; omega), List.take_take, show min (p * 2) ((p + 1) * 2) = min (p * 2) (L.length * 2) by omega, ← List.take_take, hC, cells_take]
  have a2 : C1.drop (p * 2 + 2) = cells (L.drop p) ++ C.drop ((p + 1) * 2 + (cells (L.drop p)).length) := by
    rw [h1, List.append_assoc, List.drop_append_of_le_length (by rw [List.length_take]; omega), List.drop_of_length_le (by rw [List.length_take]; omega), List.nil_append]
  rw [a1, e2, a2, ← List.append_assoc, List.take_append_of_le_length (by rw [List.length_append, List.length_append, cells_len, e1, e2, List.length_take]; omega),
    List.take_of_length_le (by rw [List.length_append, List.length_append, cells_len, e1, e2, List.length_take]; omega), cells_append, cells_cons, List.append_assoc]
set_option maxHeartbeats 4000000 in
set_option maxRecDepth 100000 in
theorem insert_room {w : World} {B vb g cap p : Nat} {L : List Sn} {x : Sn} (h : Own w B (.slice (some ⟨g, 0, none⟩) L.length cap) L) (hv : Blk w vb 62 (enc x).toArray) (hne : vb ≠ g) (hl : L.length ≤ 1000) (hp : p < L.length) (hroom : L.length + 1 ≤ cap) :
    Calls Try.prog 28 #[.slice (some ⟨g, 0, none⟩) L.length cap, .int .i64 p, .slice (some ⟨vb, 0, none⟩) 1 1] w (Insd w B (.slice (some ⟨g, 0, none⟩) L.length cap) (L.take p ++ x :: L.drop p)) := by
  obtain ⟨g', cap', cur, e, hBg, hg, _, hcm, hcs, hct⟩ : ∃ g' cap' cur, (Value.slice (some ⟨g, 0, none⟩) L.length cap) = .slice (some ⟨g', 0, none⟩) L.length cap' ∧ B ≤ g' ∧ w.heap[g']? = some (.cells cur 62 (0, 0)) ∧ L.length ≤ cap' ∧ cap' ≤ maxLen ∧ cur.size = cap' * 2 ∧ cur.toList.take (L.length * 2) = cells L := by
    rcases h.2 with ⟨h', _⟩ | ⟨g', cap', cur, h'⟩
    · simp at h'
    · exact ⟨g', cap', cur, h'⟩
  simp only [Value.slice.injEq, Option.some.injEq, Addr.mk.injEq, and_true, true_and] at e
  obtain ⟨rfl, rfl⟩ := e
  have G : Blk w g 62 cur := hg
  have hdl : (cells (L.drop p)).length = (L.length - p) * 2 := by rw [cells_len, List.length_drop]
  obtain ⟨cur1, hc1⟩ : ∃ cur1 : Array Value, cur1 = (cur.toList.take ((p + 1) * 2) ++ cells (L.drop p) ++ cur.toList.drop ((p + 1) * 2 + (cells (L.drop p)).length)).toArray := ⟨_, rfl⟩
  have hs1 : cur1.size = cap * 2 := by
    have : cap * 2 = cur.toList.length := by rw [Array.length_toList]; omega
    rw [hc1, List.size_toArray, List.length_append, List.length_append, List.length_take, List.length_drop, hdl]; omega
  obtain ⟨W1, hW1⟩ : ∃ W1, W1 = w.drew.setRow g cur1 := ⟨_, rfl⟩
  have G1 : Blk W1 g 62 cur1 := by rw [hW1]; exact Blk.row (show Blk w.drew g 62 cur from hg)
  obtain ⟨cur2, hc2⟩ : ∃ cur2 : Array Value, cur2 = (cur1.toList.take (p * 2) ++ enc x ++ cur1.toList.drop (p * 2 + (enc x).length)).toArray := ⟨_, rfl⟩
  have hs2 : cur2.size = cap * 2 := by
    have : cap * 2 = cur1.toList.length := by rw [Array.length_toList]; omega
    rw [hc2, List.size_toArray, List.length_append, List.length_append, List.length_take, List.length_drop, show (enc x).length = 2 from rfl]; omega
  have FW1 : Fr w W1 (fun q => q = g) := by
    rw [hW1]
    exact (fr_drew w (fun q => q = g)).on (fr_row _ _ _)
  have V1 : Blk W1 vb 62 (enc x).toArray := hv.fr FW1 hne
  have FIN : Hid (Insd w B (.slice (some ⟨g, 0, none⟩) L.length cap) (L.take p ++ x :: L.drop p) (.returned (.slice (some ⟨g, 0, none⟩) (L.length + 1) cap)) (W1.setRow g cur2)) := by
    have hlen : (L.take p ++ x :: L.drop p).length = L.length + 1 := by simp; omega
    refine Lib.hid ⟨_, rfl, ?_, (FW1.on (fr_row W1 g cur2)).mono (fun q _ e => by subst e; rfl), .inl rfl⟩
    rw [← hlen]
    refine own_of hBg G1.row (by rw [hlen]; exact hroom) hcm hs2 ?_
    rw [hlen, hc2, List.toList_toArray]
    refine ins_cells L p x cur.toList hp hct (by have := Array.length_toList (xs := cur); omega) cur1.toList ?_
    rw [hc1, List.toList_toArray]
  have HOV : Hid (∀ lb cb, (callFunc 41 #[.slice (some ⟨vb, 0, none⟩) 1 1, .slice (some ⟨g, (p + 1) * 2, none⟩) lb cb]).run Try.prog w = .ok (.value (.bool false)) w) := Lib.hid fun lb cb => by
    rw [run_callFunc_extern Try.func41 (by kernel_rfl) (by kernel_rfl) (by kernel_rfl) (e := Extern.SlicesOverlaps.overlaps #[44, 44] #[4]) (by kernel_rfl),
      Lib.run_overlaps_apart w 44 4 62 Try.underlying44 2 size62 ⟨vb, 0, none⟩ ⟨g, (p + 1) * 2, none⟩ 1 1 lb cb hne 62 62 (enc x).toArray.size cur.size (by unfold World.shape?; rw [show w.heap[vb]? = _ from hv]) (by unfold World.shape?; rw [hg]) (by omega) (hv.free _) (hv.free _)]
    rfl
  have HC1 : Hid (∀ ty dc sc, (Builtin.copy_ #[44, 44] ty #[.slice (some ⟨g, (p + 1) * 2, none⟩) (L.length - p) dc, .slice (some ⟨g, p * 2, none⟩) (L.length + 1 - p) sc]).run Try.prog w.drew = .ok (goInt ((L.length - p : Nat) : Int)) W1) := Lib.hid fun ty dc sc => by
    have := run_copy2 w.drew ty g ((p + 1) * 2) (L.length - p) dc ⟨g, p * 2, none⟩ (L.length + 1 - p) sc cur 62 (cells (L.drop p)) hg (by rw [hdl]; simp only [Nat.min_def]; split <;> omega) (fun j u hj => by
      have hjl : j < (L.length - p) * 2 := by rw [← hdl]; exact (List.getElem?_eq_some_iff.1 hj).1
      rw [add2, show (w.drew).cell? ⟨g, p * 2 + j, none⟩ = w.cell? ⟨g, p * 2 + j, none⟩ from rfl, G.cell, ← Array.getElem?_toList]
      rw [← cells_drop, List.getElem?_drop, ← hct, List.getElem?_take, if_pos (by omega)] at hj
      exact hj) (by rw [hdl]; omega) (cells_one _)
    rw [← hc1, ← hW1] at this
    rw [this, show Nat.min (L.length + 1 - p) (L.length - p) = L.length - p by simp only [Nat.min_def]; split <;> omega]
  have HC2 : Hid (∀ ty dc, (Builtin.copy_ #[44, 44] ty #[.slice (some ⟨g, p * 2, none⟩) (L.length + 1 - p) dc, .slice (some ⟨vb, 0, none⟩) 1 1]).run Try.prog W1 = .ok (goInt ((1 : Nat) : Int)) (W1.setRow g cur2)) := Lib.hid fun ty dc => by
    have := run_copy2 W1 ty g (p * 2) (L.length + 1 - p) dc ⟨vb, 0, none⟩ 1 1 cur1 62 (enc x) G1 (by simp only [Nat.min_def]; split <;> (first | omega | rfl)) (enc_at V1) (by show _ + 2 ≤ _; omega) (enc_one x)
    rw [← hc2] at this
    rw [this, show Nat.min 1 (L.length + 1 - p) = 1 by simp only [Nat.min_def]; split <;> omega]
  clear h hv hc1 hc2 G1 FW1 V1 hW1 G hg hct hs1 hs2
  have hcap : (cap : Int) ≤ 9223372036854775807 := by unfold maxLen at hcm; omega
  generalize L.length = n at *
  generalize Insd w B (Value.slice (some ⟨g, 0, none⟩) n cap) (L.take p ++ x :: L.drop p) = Q at *
  have mixed : Try.prog.follows .mixedOrders = true := by kernel_rfl
  have hz2 : ¬ ((p : Int) = (n : Int)) := by omega
  have hw1 : IntKind.i64.wrap ((p : Int) + 1) = (p : Int) + 1 := by rw [IntKind.wrap_i64]; omega
  have hw2 : IntKind.i64.wrap ((n : Int) + 1) = (n : Int) + 1 := by rw [IntKind.wrap_i64]; omega
  have htn : ((p : Int) + 1).toNat = p + 1 := by omega
  have htn2 : ((n : Int) + 1).toNat = n + 1 := by omega
  have hb2 : ¬ (cap = p + 1) := by omega
  have hb3 : (p : Int) ≤ (n : Int) + 1 := by omega
  have hb4 : ¬ (cap = p) := by omega
  have hb1 : (0 : Int) ≤ (p : Int) + 1 := by omega
  have hpn : p ≤ n := by omega
  have hov := HOV.out
  have hcp1 := HC1.out
  have hcp2 := HC2.out
  go_enter Try.func28, Try.ntmps28
  go_wp2_with (simp only [hov])
  go_region_law (refine step_copy_runI rfl _ _ 44 44 rfl _ _ (by simp [Act.eval, Act.put]) (by simp [Act.eval, Act.put]) (hcp1 _ _ _) ?_)
  go_wp2_with (at_builtin; refine wpList_copy_runI _ rfl _ _ 44 44 rfl _ _ rfl rfl (hcp2 _ _) ?_)
  exact FIN.out
end Go.Proofs.Ytkaocpfkigdpoaa
