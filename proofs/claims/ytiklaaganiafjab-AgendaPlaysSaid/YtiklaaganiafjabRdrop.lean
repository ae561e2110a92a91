/-
  FOR AgendaPlays: the document's own Drop.
-/
import Derived.Test.YtiklaaganiafjabRefs
import Derived.Deep.Onto
import Derived.BigRegion
namespace Go.Proofs.Ytiklaaganiafjab
open Go.RowKit
/-- what is left of the first k -/
def lft (R : List It) (d : Int) (k : Nat) : List It := (R.take k).filter (fun x => x.i != d)
theorem lft_in {R : List It} {d : Int} {k : Nat} (h : k < R.length) (hd : R[k].i ≠ d) : lft R d (k + 1) = lft R d k ++ [R[k]] := by
  unfold lft
  rw [List.take_add_one, List.getElem?_eq_getElem h, List.filter_append]
  have : (R[k].i != d) = true := by simpa using hd
  simp [this]
theorem lft_out {R : List It} {d : Int} {k : Nat} (h : k < R.length) (hd : R[k].i = d) : lft R d (k + 1) = lft R d k := by
  unfold lft
  rw [List.take_add_one, List.getElem?_eq_getElem h, List.filter_append]
  have : (R[k].i != d) = false := by simp [hd]
  simp [this]
theorem lft_le (R : List It) (d : Int) (k : Nat) : (lft R d k).length ≤ k := by
  unfold lft
  exact Nat.le_trans (List.length_filter_le _ _) (by rw [List.length_take]; omega)
theorem cells_one (R : List It) (x : It) : cells (R ++ [x]) = cells R ++ [.int .i64 x.t, .int .i64 x.i, .int .i64 x.x] := by rw [cells_append]; rfl
set_option maxHeartbeats 2000000 in
set_option maxRecDepth 100000 in
theorem rdrop_any (a : Option Addr) (c : Nat) (Z d : Int) (R : List It) (w : World) (hR : R.length ≤ 4096) (h : Its w a R) :
    Calls Try.prog 21 #[.agg #[.slice a R.length c, .int .i64 Z], .int .i64 d] w fun e w' => ∃ v, e = .returned (.tuple #[.agg #[v, .int .i64 Z], .bool (decide ((R.filter (fun x => x.i != d)).length < R.length))]) ∧ w'.ownsRow w.heap.size 60 3 v (R.filter (fun x => x.i != d)).length (cells (R.filter (fun x => x.i != d))) ∧ Below w.heap.size w w' := by
  have H := Lib.hid h
  obtain ⟨i60, hi, hz0, hz1, hz2⟩ := info_parts info60
  have LF : Hid (R.filter (fun x => x.i != d) = lft R d R.length) := Lib.hid (by unfold lft; rw [List.take_length])
  rw [LF.out]
  clear h LF
  generalize hn : R.length = n at *
  have HN := Lib.hid hn
  clear hn
  obtain ⟨w1, hw1⟩ : ∃ w1 : World, w1 = (w.alloc (Obj.cells #[.slice a n c, .int .i64 Z] 27)).alloc (Obj.cells #[.slice none 0 0, .int .i64 0] 27) := ⟨_, rfl⟩
  have b1 : Below w.heap.size w w1 := by rw [hw1]; exact ((Below.refl w.heap.size w).alloc (Nat.le_refl _) _).alloc (by simp) _
  have k0 : w1.cell? ⟨w.heap.size, 0, none⟩ = some (.slice a n c) := by rw [hw1]; go_simp
  have k1 : w1.cell? ⟨w.heap.size, 1, none⟩ = some (.int .i64 Z) := by rw [hw1]; go_simp
  have kb : w1.heap[w.heap.size + 1]? = some (.cells #[.slice none 0 0, .int .i64 0] 27 (0, 0)) := by
    have e := heap_alloc_new (w.alloc (Obj.cells #[.slice a n c, .int .i64 Z] 27)) (Obj.cells #[.slice none 0 0, .int .i64 0] 27)
    rw [show (w.alloc (Obj.cells #[.slice a n c, .int .i64 Z] 27)).heap.size = w.heap.size + 1 by simp] at e
    rw [hw1]; exact e
  have KB := Lib.hid kb
  clear kb
  have K0 := Lib.hid k0
  have K1 := Lib.hid k1
  have W1 := Lib.hid hw1
  have B1 := Lib.hid b1
  clear b1 k0 k1
  go_enter Try.func21, Try.ntmps21
  go_wp2_with fail
  rw [← W1.out]
  clear W1
  have hlt : w.heap.size < w1.heap.size := World.block_lt_of_cell? _ _ K0.out
  go_loopw [6, 7] (fun v i wq => ∃ (k : Nat), i = .int .i64 k ∧ k ≤ n ∧ wq.ownsRow w1.heap.size 60 3 v (lft R d k).length (cells (lft R d k)) ∧ Below w1.heap.size w1 wq) (fun _ i _ => n - (intOf i).toNat)
  case atStart => exact ⟨0, rfl, Nat.zero_le _, World.ownsRow_nil _ _ _ _, Below.refl _ _⟩
  case round =>
    obtain ⟨k, rfl, hk, hO, hB⟩ := hrel
    have HB := Lib.hid hB
    have HO := Lib.hid hO
    have HBW := Lib.hid (B1.out.trans (hB.mono B1.out.size))
    have q0 : wr.cell? ⟨w.heap.size, 0, none⟩ = some (.slice a n c) := by rw [hB.cell (p := ⟨w.heap.size, _, none⟩) hlt]; exact K0.out
    have q1 : wr.cell? ⟨w.heap.size, 1, none⟩ = some (.int .i64 Z) := by rw [hB.cell (p := ⟨w.heap.size, _, none⟩) hlt]; exact K1.out
    by_cases hkn : k < n
    · obtain ⟨g, o, rfl, hg, c1, c2, c3⟩ := H.out k (by rw [HN.out]; exact hkn)
      rw [← HBW.out.cell (p := ⟨g, _, none⟩) hg] at c1 c2 c3
      have LI := Lib.hid (lft_in (R := R) (d := d) (k := k) (by rw [HN.out]; exact hkn))
      have LO := Lib.hid (lft_out (R := R) (d := d) (k := k) (by rw [HN.out]; exact hkn))
      have LL := lft_le R d k
      generalize R[k]'(by rw [HN.out]; exact hkn) = x at *
      obtain ⟨t, i, v⟩ := x
      simp only at c1 c2 c3
      clear hB hO
      by_cases hd : i = d
      · have hdb : (i != d) = false := by simp [hd]
        have L2 := Lib.hid (LO.out hd)
        clear hd
        go_wp2_with fail
        go_roundw
        case rel => exact ⟨k + 1, by go_num, by omega, by rw [L2.out]; exact HO.out, HB.out⟩
        case measure => simp [intOf]; omega
      · have hdb : (i != d) = true := by simpa using hd
        have L2 := Lib.hid (LI.out hd)
        have H1C : Hid (∀ u ∈ [Value.int .i64 t, .int .i64 i, .int .i64 v], u.oneCell' = true) := Lib.hid (by
          intro u hu
          simp at hu
          rcases hu with rfl | rfl | rfl <;> rfl)
        clear hd
        generalize hm : (lft R d k).length = m at *
        go_wp2_with (at_builtin; refine wpList_append_lies _ rfl (.tmp 23) (.tmp 29) 25 rfl w1.heap.size 60 i60 (.agg #[.int .i64 0, .int .i64 0, .int .i64 0]) 3 24 Try.underlying25 hi hz0 hz1 hz2 rfl (by decide) u6 m (cells (lft R d k)) rfl (World.ownsRow.alloc HO.out _) ⟨wr.heap.size, 0, none⟩ 1 1 [.int .i64 t, .int .i64 i, .int .i64 v] rfl rfl (World.news_of_block (cs := #[.int .i64 t, .int .i64 i, .int .i64 v]) (heap_alloc_new wr _)) H1C.out (by decide) (by unfold maxLen; omega) (by omega) (by have := HB.out.size; simp; omega) _ rfl ?_; intro g4 cap w4 ho4 hg4 _ _)
        have B4 : Hid (Below w1.heap.size w1 w4) := Lib.hid (by
          have b3 := HB.out.alloc HB.out.size (Obj.cells #[Value.int IntKind.i64 t, Value.int IntKind.i64 i, Value.int IntKind.i64 v] 60)
          exact b3.trans ⟨hg4.os, hg4.tape, hg4.output, hg4.size, fun q hq => hg4.block q (Nat.lt_of_lt_of_le hq b3.size) (fun e => by have := (HO.out.lt q e.symm).1; omega)⟩)
        have O4 : Hid (w4.ownsRow w1.heap.size 60 3 (.slice (some ⟨g4, 0, none⟩) (m + 1) cap) (lft R d (k + 1)).length (cells (lft R d (k + 1)))) := Lib.hid (by rw [L2.out, cells_one, List.length_append, hm]; exact ho4)
        clear ho4 hg4 c1 c2 c3 HO
        go_wp2_with fail
        go_roundw
        case rel => exact ⟨k + 1, by go_num, by omega, O4.out, B4.out⟩
        case measure => simp [intOf]; omega
    · obtain rfl : k = n := by omega
      obtain ⟨va, vc, hv⟩ : ∃ a c, u6 = .slice a (lft R d k).length c := by
        rcases hO.2 with ⟨rfl, e⟩ | ⟨g, cap, cur, rfl, _⟩
        · exact ⟨none, 0, by rw [e]⟩
        · exact ⟨_, _, rfl⟩
      subst hv
      have hm0 := lft_le R d k
      generalize hm : (lft R d k).length = m at *
      have yb : wr.heap[w.heap.size + 1]? = some (.cells #[.slice none 0 0, .int .i64 0] 27 (0, 0)) := by rw [hB.block _ (Array.getElem?_eq_some_iff.1 KB.out).1]; exact KB.out
      have y0 : wr.cell? ⟨w.heap.size + 1, 0, none⟩ = some (.slice none 0 0) := by simp [World.cell?, yb]
      have y1 : wr.cell? ⟨w.heap.size + 1, 1, none⟩ = some (.int .i64 0) := by simp [World.cell?, yb]
      have yf0 : wr.frozen? ⟨w.heap.size + 1, 0, none⟩ = false := by simp [World.frozen?, yb]
      have yf1 : wr.frozen? ⟨w.heap.size + 1, 1, none⟩ = false := by simp [World.frozen?, yb]
      have hY : w.heap.size + 1 < w1.heap.size := (Array.getElem?_eq_some_iff.1 KB.out).1
      clear hB hO yb
      go_wp2_with fail
      go_region
      obtain ⟨W5, hW5, z0, z1, B5, O5⟩ : ∃ W5 : World, W5 = ((wr.setCell ⟨w.heap.size + 1, 0, none⟩ (.slice va m vc)).setCell ⟨w.heap.size + 1, 1, none⟩ (.int .i64 Z)).drew ∧ W5.cell? ⟨w.heap.size + 1, 0, none⟩ = some (.slice va m vc) ∧ W5.cell? ⟨w.heap.size + 1, 1, none⟩ = some (.int .i64 Z) ∧ Below w.heap.size w W5 ∧ W5.ownsRow w1.heap.size 60 3 (.slice va m vc) m (cells (lft R d k)) := by
        refine ⟨_, rfl, ?_, ?_, ((HBW.out.setCell (p := ⟨w.heap.size + 1, 0, none⟩) (by simp) _).setCell (p := ⟨w.heap.size + 1, 1, none⟩) (by simp) _).drew, ?_⟩
        · go_simp
        · go_simp
        · refine World.ownsRow.kept (ownsRow_setCell_other (ownsRow_setCell_other HO.out ?_ _) ?_ _) (grown_below ((Below.refl _ _).drew) none) (by cases va <;> simp [Value.ownBlock])
          · intro e; have := (HO.out.lt _ (by first | exact e | exact e.symm)).1; simp at this; omega
          · intro e; have := (HO.out.lt _ (by first | exact e | exact e.symm)).1; simp at this; omega
      rw [← hW5]
      clear hW5 y0 y1 yf0 yf1 q0 q1
      go_wp2_with fail
      refine bodyPost_ret (by simp [results, Try.results21, go_sem, z0, z1]; try rfl) rfl ?_
      exact ⟨.slice va m vc, by rw [hm], by rw [hm]; exact O5.mono B1.out.size, B5⟩
end Go.Proofs.Ytiklaaganiafjab
