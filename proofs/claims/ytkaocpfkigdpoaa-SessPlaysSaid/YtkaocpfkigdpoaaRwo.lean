/-
  THE DOCUMENT'S TABLE: without.
-/
import Derived.Test.YtkaocpfkigdpoaaRsq
import Derived.Test.YtkaocpfkigdpoaaRrd
namespace Go.Proofs.Ytkaocpfkigdpoaa
open Go.RowKit
/-- what a call that makes a table leaves -/
def Tbl (w : World) (L : List Sn) (e : Ending) (w' : World) : Prop := ∃ v, e = .returned (.agg #[v]) ∧ OwnR w' w.heap.size v L ∧ Below w.heap.size w w'
def wo (id : Int) (L : List Sn) : List Sn := L.filter (fun x => decide (x.1 ≠ id))
theorem wo_take_in {id : Int} {L : List Sn} {j : Nat} (hj : j < L.length) (h : L[j].1 ≠ id) : wo id (L.take (j + 1)) = wo id (L.take j) ++ [L[j]] := by
  unfold wo
  rw [List.take_succ_eq_append_getElem hj, List.filter_append, List.filter_cons_of_pos (by simpa using h), List.filter_nil]
theorem wo_take_out {id : Int} {L : List Sn} {j : Nat} (hj : j < L.length) (h : L[j].1 = id) : wo id (L.take (j + 1)) = wo id (L.take j) := by
  unfold wo
  rw [List.take_succ_eq_append_getElem hj, List.filter_append, List.filter_cons_of_neg (by simpa using h), List.filter_nil, List.append_nil]
theorem wo_len (id : Int) (L : List Sn) : (wo id L).length ≤ L.length := List.length_filter_le _ _
/-- the walk's blocks: the table that came in, and the result's cell -/
structure Ws (w0 w : World) (a : Value) (v : Value) (R : List Sn) : Prop where
  k0 : Blk w w0.heap.size 27 #[a]
  k1 : Blk w (w0.heap.size + 1) 27 #[.slice none 0 0]
  own : OwnR w (w0.heap.size + 2) v R
  bel : Below w0.heap.size w0 w
theorem Ws.next {w0 w w' : World} {a v : Value} {R : List Sn} (h : Ws w0 w a v R) (b : Below w.heap.size w w') : Ws w0 w' a v R :=
  ⟨h.k0.next b, h.k1.next b, h.own.next b, h.bel.trans (b.mono h.bel.size)⟩
theorem Ws.push {w0 w w1 : World} {a v v' : Value} {R : List Sn} {x : Sn} (h : Ws w0 w a v R) (ho : w1.ownsRow (w0.heap.size + 2) 58 2 v' (R.length + 1) (cells R ++ enc x)) (hg : w.grownBy w1 v.ownBlock) : Ws w0 w1 a v' (R ++ [x]) := by
  have f1 : Fr w w1 (fun q => v.ownBlock = some q) := (Fr.of_grown hg).mono (fun q _ e => e.symm)
  have n : ∀ q, q < w0.heap.size + 2 → ¬ (v.ownBlock = some q) := fun q hq e => by have := (ownr_ne h.own q e).1; omega
  refine ⟨h.k0.fr f1 (n _ (by omega)), h.k1.fr f1 (n _ (by omega)), ?_, h.bel.trans (f1.below (fun q hq => by have := (ownr_ne h.own q hq).1; omega) h.bel.size)⟩
  unfold OwnR
  rw [List.length_append, cells_append, show cells [x] = enc x from by unfold cells; simp]
  exact ho
/-- the result is stored and handed back -/
theorem Ws.fin {w0 w : World} {a v : Value} {R : List Sn} (h : Ws w0 w a v R) : ∃ W, W = w.setCell ⟨w0.heap.size + 1, 0, none⟩ v ∧ W.cell? ⟨w0.heap.size + 1, 0, none⟩ = some v ∧ OwnR W w0.heap.size v R ∧ Below w0.heap.size w0 W := by
  have f := fr_set w (w0.heap.size + 1) 0 v
  exact ⟨_, rfl, (h.k1.set 0 v).cell 0, OwnR.le (Fr.own h.own f (fun q hq e => by have := (ownr_ne h.own q hq).1; omega)) (by omega), h.bel.setCell (p := ⟨w0.heap.size + 1, 0, none⟩) (by simp) _⟩
set_option maxHeartbeats 4000000 in
set_option maxRecDepth 100000 in
theorem without_any {w : World} {v : Value} {L : List Sn} (id : Int) (h : Ses w v L) (hl : L.length ≤ 1000) : Calls Try.prog 29 #[.agg #[v], .int .i64 id] w (Tbl w (wo id L)) := by
  obtain ⟨i0, hi, hz0, hz1, hz2⟩ := info_parts info58
  obtain ⟨a, c, rfl, f⟩ := h
  obtain ⟨W1, hW1⟩ : ∃ W1, W1 = (w.alloc (.cells #[.slice a L.length c] 27)).alloc (.cells #[.slice none 0 0] 27) := ⟨_, rfl⟩
  have S1 : Hid (Ws w W1 (.slice a L.length c) (.slice none 0 0) (wo id (L.take 0))) := by
    have ba := (Below.refl w.heap.size w).alloc (Nat.le_refl _) (.cells #[.slice a L.length c] 27)
    have bb := (Below.refl (w.alloc (.cells #[.slice a L.length c] 27)).heap.size (w.alloc (.cells #[.slice a L.length c] 27))).alloc (Nat.le_refl _) (.cells #[.slice none 0 0] 27)
    have k := Blk.new (w.alloc (.cells #[.slice a L.length c] 27)) 27 #[.slice none 0 0]
    rw [World.size_alloc] at k
    rw [hW1]
    exact Lib.hid ⟨(Blk.new w 27 _).next bb, k, by rw [List.take_zero]; exact World.ownsRow_nil _ _ _ _, ba.trans (bb.mono (by simp))⟩
  have F := Lib.hid f
  have HW := Lib.hid hW1
  have WI := Lib.hid (fun j (hj : j < L.length) (h : L[j].1 ≠ id) => wo_take_in hj h)
  have WX := Lib.hid (fun j (hj : j < L.length) (h : L[j].1 = id) => wo_take_out hj h)
  have WL := Lib.hid (fun j => Nat.le_trans (wo_len id (L.take j)) (show (L.take j).length ≤ 1000 by rw [List.length_take]; omega))
  have WE := Lib.hid (show wo id L = wo id (L.take L.length) by rw [List.take_length])
  have hl2 : (L.length : Int) ≤ 1000 := by omega
  clear f hW1
  go_enter Try.func29, Try.ntmps29
  go_wp2_with fail
  rw [← HW.out]
  go_loopw [6, 5] (fun i s wq => ∃ (j : Nat) (s5 : Value), i = .int .i64 j ∧ s5 = s ∧ j ≤ L.length ∧ Hid (Ws w wq (.slice a L.length c) s5 (wo id (L.take j)))) (fun i _ _ => L.length - (intOf i).toNat)
  case atStart => exact ⟨0, _, rfl, rfl, Nat.zero_le _, S1⟩
  case round =>
    obtain ⟨j, s5, rfl, rfl, hj, S⟩ := hrel
    have c0 : wr.cell? ⟨w.heap.size, 0, none⟩ = some (.slice a L.length c) := S.out.k0.cell 0
    by_cases hjn : j < L.length
    · obtain ⟨g, o, rfl, hg, c1, c2⟩ := F.out j hjn
      rw [← S.out.bel.cell (p := ⟨g, _, none⟩) hg] at c1 c2
      have hjI : (j : Int) < (L.length : Int) := by omega
      have HJ := Lib.hid (show j + 1 ≤ L.length by omega)
      have WI1 := Lib.hid (WI.out j hjn)
      have WX1 := Lib.hid (WX.out j hjn)
      have wl := WL.out j
      have HM1 := Lib.hid (show (wo id (L.take j)).length + 1 ≤ maxLen by unfold maxLen; omega)
      have HM2 := Lib.hid (show ((wo id (L.take j)).length + 1) * 16 ≤ 140737488355328 by omega)
      generalize L[j] = x at *
      obtain ⟨x1, x2⟩ := x
      simp only at c1 c2 WI1 WX1
      by_cases e : x1 = id
      · have eB : (x1 != id) = false := by simpa using e
        have S3 : Hid (Ws w wr (.slice (some ⟨g, o, none⟩) L.length c) s5 (wo id (L.take (j + 1)))) := by rw [WX1.out e]; exact S
        clear WI1 WX1 S
        subst e
        go_wp2_with fail
        go_roundw
        case rel => exact ⟨j + 1, _, by go_num, rfl, HJ.out, S3⟩
        case measure => simp [intOf]; omega
      · have eB : (x1 != id) = true := by simpa using e
        have e2 := WI1.out e
        obtain ⟨w5, hw5⟩ : ∃ w5, w5 = wr.alloc (.cells (enc (x1, x2)).toArray 58) := ⟨_, rfl⟩
        have B5 : Below wr.heap.size wr w5 := by rw [hw5]; exact (Below.refl _ wr).alloc (Nat.le_refl _) _
        have N5 := Lib.hid (enc_at58 (x := (x1, x2)) (show Blk w5 wr.heap.size 58 (enc (x1, x2)).toArray by rw [hw5]; exact Blk.new _ _ _))
        have S5 := Lib.hid (S.out.next B5)
        have O5 := Lib.hid S5.out.own
        have E1 := Lib.hid (enc_one (x1, x2))
        have W5 := Lib.hid hw5
        unfold enc at W5
        unfold OwnR at O5
        have sz5 : Hid (w.heap.size + 2 ≤ w5.heap.size) := Lib.hid (by have := S5.out.k1.lt; omega)
        have FIN := Lib.hid (fun v' (w9 : World) (ho : w9.ownsRow (w.heap.size + 2) 58 2 v' ((wo id (L.take j)).length + 1) (cells (wo id (L.take j)) ++ enc (x1, x2))) (hg : w5.grownBy w9 (s5).ownBlock) => show Ws w w9 (.slice (some ⟨g, o, none⟩) L.length c) v' (wo id (L.take (j + 1))) by rw [e2]; exact S5.out.push ho hg)
        clear WI1 WX1 S hw5 B5 e2 S5
        generalize wo id (L.take j) = R at *
        go_wp2_with (at_builtin; rw [← W5.out]; refine wpList_append_own _ rfl _ _ 25 rfl (w.heap.size + 2) 58 i0 _ 2 16 Try.underlying25 hi hz0 hz1 hz2 rfl (by decide) _ R.length (cells R) rfl O5.out ⟨wr.heap.size, 0, none⟩ 1 1 (enc (x1, x2)) rfl rfl N5.out E1.out HM1.out HM2.out sz5.out ?_; intro v' w9 ho hg _; have S9 := Lib.hid (FIN.out v' w9 ho hg); clear ho hg)
        go_roundw
        case rel => exact ⟨j + 1, _, by go_num, rfl, HJ.out, S9⟩
        case measure => simp [intOf]; omega
    · obtain rfl : j = L.length := by omega
      rw [← WE.out] at S
      obtain ⟨W, hW, z0, ow, bw⟩ := S.out.fin
      have c5 : wr.cell? ⟨w.heap.size + 1, 0, none⟩ = some (.slice none 0 0) := S.out.k1.cell 0
      have f5 := S.out.k1.free 0
      obtain ⟨a5, d5, hv⟩ := S.out.own.form
      have HWf := Lib.hid hW
      have HO := Lib.hid ow
      have HB := Lib.hid bw
      have HZ := Lib.hid z0
      clear hW ow bw z0 S
      subst hv
      go_wp2_with fail
      rw [← HWf.out]
      have z0 := HZ.out
      clear c0 c5 f5 HWf
      refine bodyPost_ret (by simp [results, Try.results29, go_sem, z0]; try rfl) rfl ?_
      exact ⟨_, rfl, HO.out, HB.out⟩
end Go.Proofs.Ytkaocpfkigdpoaa
