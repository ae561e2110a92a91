/-
  FOR AgendaPlays: items as the document has them.
-/
import Derived.Test.YtiklaaganiafjabSame
namespace Go.Proofs.Ytiklaaganiafjab
open Go.RowKit
theorem info60 : (Try.prog.info? 60).map (fun i => (i.zero, i.size, i.bytes)) = some (some (.agg #[.int .i64 0, .int .i64 0, .int .i64 0]), 3, 24) := by kernel_rfl
theorem take_cells {R : List It} {k : Nat} (h : k < R.length) : cells (R.take (k + 1)) = cells (R.take k) ++ [.int .i64 R[k].t, .int .i64 R[k].i, .int .i64 R[k].x] := by
  rw [List.take_add_one, List.getElem?_eq_getElem h, cells_append]; rfl
set_option maxHeartbeats 2000000 in
set_option maxRecDepth 100000 in
theorem refs_any (a : Option Addr) (c : Nat) (R : List It) (w : World) (hR : R.length ≤ 4096) (h : Its w a R) :
    Calls Try.prog 14 #[.slice a R.length c] w fun e w' => ∃ v, e = .returned v ∧ w'.ownsRow w.heap.size 60 3 v R.length (cells R) ∧ Below w.heap.size w w' := by
  have H := Lib.hid h
  obtain ⟨i60, hi, hz0, hz1, hz2⟩ := info_parts info60
  clear h
  generalize hn : R.length = n at *
  have HN := Lib.hid hn
  clear hn
  go_enter Try.func14, Try.ntmps14
  go_wp2_with fail
  go_loopw [3, 4] (fun v i wq => ∃ (k : Nat), i = .int .i64 k ∧ k ≤ n ∧ wq.ownsRow w.heap.size 60 3 v k (cells (R.take k)) ∧ Below w.heap.size w wq) (fun _ i _ => n - (intOf i).toNat)
  case atStart => exact ⟨0, rfl, Nat.zero_le _, World.ownsRow_nil _ _ _ _, Below.refl _ _⟩
  case round =>
    obtain ⟨k, rfl, hk, hO, hB⟩ := hrel
    have HB := Lib.hid hB
    have HO := Lib.hid hO
    by_cases hkn : k < n
    · obtain ⟨g, o, rfl, hg, c1, c2, c3⟩ := H.out k (by rw [HN.out]; exact hkn)
      rw [← hB.cell (p := ⟨g, _, none⟩) hg] at c1 c2 c3
      have TK := Lib.hid (take_cells (R := R) (k := k) (by rw [HN.out]; exact hkn))
      generalize R[k]'(by rw [HN.out]; exact hkn) = x at *
      generalize x.t = t at *
      generalize x.i = i at *
      generalize x.x = v at *
      have H1C : Hid (∀ u ∈ [Value.int .i64 t, .int .i64 i, .int .i64 v], u.oneCell' = true) := Lib.hid (by
        intro u hu
        simp at hu
        rcases hu with rfl | rfl | rfl <;> rfl)
      clear hB hO
      go_wp2_with (at_builtin; refine wpList_append_lies _ rfl (.tmp 11) (.tmp 16) 25 rfl w.heap.size 60 i60 (.agg #[.int .i64 0, .int .i64 0, .int .i64 0]) 3 24 Try.underlying25 hi hz0 hz1 hz2 rfl (by decide) u3 k (cells (R.take k)) rfl (World.ownsRow.alloc HO.out _) ⟨wr.heap.size, 0, none⟩ 1 1 [.int .i64 t, .int .i64 i, .int .i64 v] rfl rfl (World.news_of_block (cs := #[.int .i64 t, .int .i64 i, .int .i64 v]) (heap_alloc_new wr _)) H1C.out (by decide) (by unfold maxLen; omega) (by omega) (by have := HB.out.size; simp; omega) _ rfl ?_; intro g4 cap w4 ho4 hg4 _ _)
      have B4 : Hid (Below w.heap.size w w4) := Lib.hid (by
        have b3 := HB.out.alloc HB.out.size (Obj.cells #[Value.int IntKind.i64 t, Value.int IntKind.i64 i, Value.int IntKind.i64 v] 60)
        exact b3.trans ⟨hg4.os, hg4.tape, hg4.output, hg4.size, fun q hq => hg4.block q (Nat.lt_of_lt_of_le hq b3.size) (fun e => by have := (HO.out.lt q e.symm).1; omega)⟩)
      have O4 : Hid (w4.ownsRow w.heap.size 60 3 (.slice (some ⟨g4, 0, none⟩) (k + 1) cap) (k + 1) (cells (R.take (k + 1)))) := Lib.hid (by rw [TK.out]; exact ho4)
      clear ho4 hg4 c1 c2 c3 HO
      go_wp2_with fail
      go_roundw
      case rel => exact ⟨k + 1, by go_num, by omega, O4.out, B4.out⟩
      case measure => simp [intOf]; omega
    · obtain rfl : k = n := by omega
      have ET : R.take k = R := List.take_of_length_le (by rw [HN.out]; exact Nat.le_refl _)
      rw [ET] at hO
      have HO := Lib.hid hO
      clear hB hO
      go_wp2_with fail
      go_ret
      exact ⟨_, rfl, HO.out, HB.out⟩
end Go.Proofs.Ytiklaaganiafjab
