/-
  THE DOCUMENT'S TABLE: Text.
-/
import Derived.Test.YtkaocpfkigdpoaaRtk
import Derived.Test.YtkaocpfkigdpoaaTxt
namespace Go.Proofs.Ytkaocpfkigdpoaa
open Go.RowKit
set_option maxHeartbeats 4000000 in
set_option maxRecDepth 100000 in
theorem rtext_any {w : World} {v : Value} {L : List Sn} (h : Ses w v L) (hl : L.length ≤ 1000) (hb : ∀ x ∈ L, (0 ≤ x.1 ∧ x.1 < 18446744073709551616) ∧ 0 ≤ x.2 ∧ x.2 < 18446744073709551616) :
    Calls Try.prog 23 #[.agg #[v]] w fun e w' => e = .returned (.string (txtS L)) ∧ Below w.heap.size w w' := by
  obtain ⟨a, c, rfl, f⟩ := h
  obtain ⟨W1, hW1⟩ : ∃ W1, W1 = w.alloc (.cells #[.slice a L.length c] 27) := ⟨_, rfl⟩
  have k1 : Blk W1 w.heap.size 27 #[.slice a L.length c] := by rw [hW1]; exact Blk.new _ _ _
  have b1 : Below w.heap.size w W1 := by rw [hW1]; exact (Below.refl _ w).alloc (Nat.le_refl _) _
  have F := Lib.hid f
  have HW := Lib.hid hW1
  have K1 := Lib.hid k1
  have B1 := Lib.hid b1
  have HB := Lib.hid hb
  have NL := Lib.hid (fun w => Bt.rnum_any (L.length : Int) (by omega) (by omega) w)
  have zL := Bt.numS_size (L.length : Int)
  have RE : Hid (txtS L = Bt.numS (L.length : Int) ++ bodS (L.take L.length)) := Lib.hid (by rw [List.take_of_length_le (Nat.le_refl _)]; rfl)
  have hl2 : (L.length : Int) ≤ 1000 := by omega
  have u0 : IntKind.u64.wrap (L.length : Int) = (L.length : Int) := IntWalk.u64_in _ (by omega)
  have c0 : W1.cell? ⟨w.heap.size, 0, none⟩ = some (.slice a L.length c) := k1.cell 0
  generalize Bt.numS (L.length : Int) = H at *
  generalize txtS L = E at *
  clear hb f hW1 k1 b1
  go_enter Try.func23, Try.ntmps23
  go_wp2_with fail
  rw [← HW.out]
  refine (NL.out _).mono ?_
  rintro e w2 ⟨rfl, b2⟩
  have K2 := Lib.hid (K1.out.next b2)
  have B2 := Lib.hid (B1.out.trans (b2.mono B1.out.size))
  clear b2 K1 B1 c0
  go_wp2_with fail
  go_loopw [4, 3] (fun i s wq => ∃ (j : Nat) (S : ByteArray), i = .int .i64 j ∧ s = .string S ∧ j ≤ L.length ∧ Hid (S = H ++ bodS (L.take j)) ∧ Hid (Below w.heap.size w wq) ∧ Hid (Blk wq w.heap.size 27 #[.slice a L.length c])) (fun i _ _ => L.length - (intOf i).toNat)
  case atStart => exact ⟨0, H, rfl, rfl, Nat.zero_le _, Lib.hid (ba_nil H).symm, B2, K2⟩
  case round =>
    obtain ⟨j, S, rfl, rfl, hj, hS, hB, hK⟩ := hrel
    have c0 : wr.cell? ⟨w.heap.size, 0, none⟩ = some (.slice a L.length c) := hK.out.cell 0
    by_cases hjn : j < L.length
    · obtain ⟨g, o, rfl, hg, f0, f1⟩ := F.out j hjn
      rw [← hB.out.cell (p := ⟨g, _, none⟩) hg] at f0 f1
      have FT := Lib.hid (bodS_take hjn)
      have FS : S.size ≤ 20000 := by
        have h1 := bodS_size (L.take j)
        rw [List.length_take] at h1
        rw [hS.out, ba_size]; omega
      obtain ⟨⟨p1, p2⟩, p3, p4⟩ := HB.out L[j] (List.getElem_mem hjn)
      have NX := Lib.hid (fun W => Bt.rnum_any L[j].1 p1 p2 W)
      have NY := Lib.hid (fun W => Bt.rnum_any L[j].2 p3 p4 W)
      have y1 := Bt.numS_size L[j].1
      have y2 := Bt.numS_size L[j].2
      have NR : Hid (∀ T M : ByteArray, T = Bt.numS L[j].1 → M = Bt.numS L[j].2 → S ++ T ++ M = H ++ bodS (L.take (j + 1))) := Lib.hid (by
        rintro T M rfl rfl
        rw [FT.out, hS.out, ba_assoc, ba_assoc H]
        rfl)
      obtain ⟨T, hT⟩ : ∃ A, Bt.numS L[j].1 = A := ⟨_, rfl⟩
      obtain ⟨M, hM⟩ : ∃ A, Bt.numS L[j].2 = A := ⟨_, rfl⟩
      have NS := Lib.hid (NR.out T M hT.symm hM.symm)
      rw [hT] at NX y1
      rw [hM] at NY y2
      clear NR hT hM FT
      have hjI : (j : Int) < (L.length : Int) := by omega
      generalize L[j] = x at *
      obtain ⟨x1, x2⟩ := x
      simp only at f0 f1 p1 p2 p3 p4 NX NY
      have HK := hK
      go_wp2_with fail
      have x0 := fun d os => cell_regrown c0 d os
      have x1' := fun d os => cell_regrown f0 d os
      have x2' := fun d os => cell_regrown f1 d os
      have C1 := Lib.hid (fun d os => Calls.regrown_of (d := d) (os := os) (NX.out (Go.Sort.grow (redrawn wr d) os)))
      have C2 := Lib.hid (fun d os => Calls.regrown_of (d := d) (os := os) (NY.out (Go.Sort.grow (redrawn wr d) os)))
      have u1 : IntKind.u64.wrap x1 = x1 := IntWalk.u64_in _ (by omega)
      have u2 : IntKind.u64.wrap x2 = x2 := IntWalk.u64_in _ (by omega)
      have q1 : ¬ (9223372036854775807 < S.size + T.size) := by omega
      have q2 : ¬ (9223372036854775807 < S.size + T.size + M.size) := by omega
      refine wp_region_quiet_below mixedE (by kernel_rfl) ?_
      repeat (quiet_step (first | (with_reducible exact C1.out _ _) | (with_reducible exact C2.out _ _)))
      refine wpQuiet_nil ?_
      intro _ hw'
      obtain ⟨⟨dq, osq⟩, hw''⟩ := hw'
      subst hw''
      have b6 := below_regrown wr dq osq
      have B6h := Lib.hid (hB.out.trans (b6.mono hB.out.size))
      have K6h := Lib.hid (hK.out.next b6)
      clear b6 x0 x1' x2' c0 C1 C2 u1 u2 q1 q2 f0 f1 HK
      generalize Go.Sort.grow (redrawn wr dq) osq = w6 at *
      go_wp2_with fail
      go_roundw
      case rel => exact ⟨j + 1, _, by go_num, rfl, by omega, NS, B6h, K6h⟩
      case measure => simp [intOf]; omega
    · obtain rfl : j = L.length := by omega
      obtain rfl : S = E := hS.out.trans RE.out.symm
      have BB := hB.out
      clear hB hK hS
      go_wp2_with fail
      go_ret
      exact ⟨rfl, BB⟩
end Go.Proofs.Ytkaocpfkigdpoaa
