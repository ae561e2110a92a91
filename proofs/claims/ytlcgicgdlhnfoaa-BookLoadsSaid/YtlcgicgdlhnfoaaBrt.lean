/-
  The book: the document's Text 24.
-/
import Derived.Test.YtlcgicgdlhnfoaaBtp
import Derived.Test.YtlcgicgdlhnfoaaBRefs
import Derived.Lib.QuietBelow
namespace Go.Proofs.Ytlcgicgdlhnfoaa
open Go.RowKit
/-- rows of numbers that can be read -/
def Rws (w : World) (a : Option Addr) (LL : List (List Int)) : Prop := ∀ i (h : i < LL.length), ∃ g o q c, a = some ⟨g, o, none⟩ ∧ g < w.heap.size ∧ w.cell? ⟨g, o + i, none⟩ = some (.slice q LL[i].length c) ∧ Nums w q LL[i]
theorem Rws.next {w w' : World} {a : Option Addr} {LL : List (List Int)} (h : Rws w a LL) (hb : Below w.heap.size w w') : Rws w' a LL := fun i hi => by
  obtain ⟨g, o, q, c, e, hg, ck, nn⟩ := h i hi
  exact ⟨g, o, q, c, e, Nat.lt_of_lt_of_le hg hb.size, (hb.cell (p := ⟨g, _, none⟩) hg).trans ck, nn.next hb⟩
theorem rnum18_any (n : Int) (h0 : 0 ≤ n) (h1 : n < 9223372036854775808) (w : World) : Calls Try.prog 37 #[.int .i64 n] w fun e w' => e = .returned (.string (Bt.numS n)) ∧ Below w.heap.size w w' := by
  have N := Lib.hid (Bt.rnum_any n h0 (by omega) w)
  have u1 : IntKind.u64.wrap n = n := IntWalk.u64_in _ (by omega)
  go_enter Try.func37, Try.ntmps37
  go_wp2_with fail
  refine N.out.mono ?_
  rintro e w1 ⟨rfl, b1⟩
  go_wp2_with fail
  go_ret
  exact ⟨rfl, b1⟩
set_option maxHeartbeats 8000000 in
set_option maxRecDepth 100000 in
theorem rtext_any {w : World} {a : Option Addr} {base : Int} {LL : List (List Int)} (c : Nat) (h : Rws w a LL) (h0 : 0 ≤ base) (hb : base ≤ 549755813888) (hl : LL.length ≤ 64) (hn : ∀ xs ∈ LL, xs.length ≤ 16 ∧ ∀ x ∈ xs, 0 ≤ x ∧ x ≤ 549755813888) :
    Calls Try.prog 24 #[.agg #[.int .i64 base, .slice a LL.length c]] w fun e w' => e = .returned (.string (txtS base LL)) ∧ Below w.heap.size w w' := by
  have N1 := Lib.hid (fun V => rnum18_any base h0 (by omega) V)
  have N2 := Lib.hid (fun V => rnum18_any (LL.length : Int) (by omega) (by omega) V)
  have z1 := Bt.numS_size base
  have z2 := Bt.numS_size (LL.length : Int)
  obtain ⟨W, hW⟩ : ∃ W, W = w.alloc (.cells #[.int .i64 base, .slice a LL.length c] 27) := ⟨_, rfl⟩
  have kW : Blk W w.heap.size 27 #[.int .i64 base, .slice a LL.length c] := by rw [hW]; exact Blk.new _ _ _
  have bW : Below w.heap.size w W := by rw [hW]; exact (Below.refl _ w).alloc (Nat.le_refl _) _
  have RW := Lib.hid (h.next bW)
  have BW := Lib.hid bW
  have KW := Lib.hid kW
  have HW := Lib.hid hW
  have RE : Hid (txtS base LL = Bt.numS base ++ Bt.numS (LL.length : Int) ++ bodS (LL.take LL.length)) := Lib.hid (by rw [List.take_of_length_le (Nat.le_refl _)]; rfl)
  have HN := Lib.hid hn
  obtain ⟨E, hE⟩ : ∃ E, E = txtS base LL := ⟨_, rfl⟩
  rw [← hE] at RE ⊢
  generalize Bt.numS base = T1 at *
  generalize Bt.numS (LL.length : Int) = T2 at *
  have hlI : (LL.length : Int) ≤ 64 := by omega
  have q0 : W.cell? ⟨w.heap.size, 0, none⟩ = some (.int .i64 base) := kW.cell 0
  have q1 : W.cell? ⟨w.heap.size, 1, none⟩ = some (.slice a LL.length c) := kW.cell 1
  clear h hn bW kW hW hE
  go_enter Try.func24, Try.ntmps24
  go_wp2_with (rw [← HW.out])
  have x0 := fun d os => cell_regrown q0 d os
  have x1 := fun d os => cell_regrown q1 d os
  have C1 := Lib.hid (fun d os => Calls.regrown_of (d := d) (os := os) (N1.out (Go.Sort.grow (redrawn W d) os)))
  have C2 := Lib.hid (fun d os => Calls.regrown_of (d := d) (os := os) (N2.out (Go.Sort.grow (redrawn W d) os)))
  have p1 : ¬ (9223372036854775807 < T1.size + T2.size) := by omega
  refine wp_region_quiet_below mixedE (by kernel_rfl) ?_
  repeat (quiet_step (first | (with_reducible exact C1.out _ _) | (with_reducible exact C2.out _ _)))
  refine wpQuiet_nil ?_
  intro _ hw'
  obtain ⟨⟨dq, osq⟩, hw''⟩ := hw'
  subst hw''
  have b6 := below_regrown W dq osq
  have B6 := Lib.hid (BW.out.trans (b6.mono BW.out.size))
  have R6 := Lib.hid (RW.out.next b6)
  have K6 := Lib.hid (KW.out.next b6)
  clear b6 x0 x1 q0 q1 C1 C2 p1 RW BW KW HW
  generalize Go.Sort.grow (redrawn W dq) osq = w6 at *
  clear N1 N2
  go_wp2_with fail
  go_loopw [3, 4] (fun s i wr => ∃ (j : Nat) (S : ByteArray), s = .string S ∧ i = .int .i64 j ∧ j ≤ LL.length ∧ Hid (S = T1 ++ T2 ++ bodS (LL.take j)) ∧ Hid (Below w.heap.size w wr) ∧ Hid (Rws wr a LL) ∧ Hid (Blk wr w.heap.size 27 #[.int .i64 base, .slice a LL.length c])) (fun _ i _ => LL.length - (intOf i).toNat)
  case atStart => exact ⟨0, T1 ++ T2, rfl, rfl, Nat.zero_le _, Lib.hid (ba_nil (T1 ++ T2)).symm, B6, R6, K6⟩
  case round =>
    obtain ⟨j, S, rfl, rfl, hj, hS, hB, hR, hK⟩ := hrel
    clear B6 R6 K6
    have k1 : wr.cell? ⟨w.heap.size, 1, none⟩ = some (.slice a LL.length c) := hK.out.cell 1
    by_cases hjn : j < LL.length
    · have jI : (j : Int) < (LL.length : Int) := by omega
      have jB := decide_eq_true jI
      obtain ⟨g, o, q, cq, rfl, hg, ck, nn⟩ := hR.out j hjn
      obtain ⟨hx16, hxa⟩ := HN.out LL[j] (List.getElem_mem hjn)
      have hSz : S.size ≤ 20000 := by
        have h1 : (bodS (LL.take j)).size ≤ 153 * (LL.take j).length := bodS_size (fun y hy => (HN.out y (List.mem_of_mem_take hy)).1)
        rw [List.length_take] at h1
        rw [hS.out, ba_size, ba_size]; omega
      have NS : Hid (S ++ mtS LL[j] = T1 ++ T2 ++ bodS (LL.take (j + 1))) := Lib.hid (by
        rw [List.take_succ_eq_append_getElem hjn, bodS_app, bodS_one, hS.out, ba_assoc (T1 ++ T2)])
      have NUQ := Lib.hid nn
      have HX := Lib.hid hxa
      clear nn hxa hS
      generalize LL[j] = xs at *
      have NL := Lib.hid (fun V => rnum18_any (xs.length : Int) (by omega) (by omega) V)
      have zL := Bt.numS_size (xs.length : Int)
      have MT : Hid (mtS xs = Bt.numS (xs.length : Int) ++ pkS xs) := Lib.hid rfl
      generalize Bt.numS (xs.length : Int) = TL at *
      have p2 : ¬ (9223372036854775807 < S.size + TL.size) := by omega
      go_wp2_with fail
      refine (NL.out _).mono ?_
      rintro e w7 ⟨rfl, b7⟩
      have B7 := Lib.hid (hB.out.trans (b7.mono hB.out.size))
      have R7 := Lib.hid (hR.out.next b7)
      have K7 := Lib.hid (hK.out.next b7)
      have N7 := Lib.hid (NUQ.out.next b7)
      have C7 : Hid (w7.cell? ⟨g, o + j, none⟩ = some (.slice q xs.length cq)) := Lib.hid ((b7.cell (p := ⟨g, _, none⟩) hg).trans ck)
      have G7 : Hid (g < w7.heap.size) := Lib.hid (Nat.lt_of_lt_of_le hg b7.size)
      clear b7 NL NUQ hB hR hK k1 ck hg
      go_wp2_with fail
      go_loopw [3, 5] (fun s i wr => ∃ (k : Nat) (S2 : ByteArray), s = .string S2 ∧ i = .int .i64 k ∧ k ≤ xs.length ∧ Hid (S2 = S ++ TL ++ pkS (xs.take k)) ∧ Hid (Below w.heap.size w wr) ∧ Hid (Rws wr (some ⟨g, o, none⟩) LL) ∧ Hid (Blk wr w.heap.size 27 #[.int .i64 base, .slice (some ⟨g, o, none⟩) LL.length c]) ∧ Hid (Nums wr q xs) ∧ Hid (wr.cell? ⟨g, o + j, none⟩ = some (.slice q xs.length cq)) ∧ Hid (g < wr.heap.size)) (fun _ i _ => xs.length - (intOf i).toNat)
      case atStart => exact ⟨0, S ++ TL, rfl, rfl, Nat.zero_le _, Lib.hid (ba_nil (S ++ TL)).symm, B7, R7, K7, N7, C7, G7⟩
      case round =>
        obtain ⟨k, S2, rfl, rfl, hk, hS2, hB, hR, hK, hN, hC, hG⟩ := hrel
        clear B7 R7 K7 N7 C7 G7
        have k1 : wr.cell? ⟨w.heap.size, 1, none⟩ = some (.slice (some ⟨g, o, none⟩) LL.length c) := hK.out.cell 1
        have k2 := hC.out
        by_cases hkn : k < xs.length
        · have kI : (k : Int) < (xs.length : Int) := by omega
          have kB := decide_eq_true kI
          obtain ⟨g2, o2, rfl, hg2, ck2⟩ := hN.out k hkn
          have hy := HX.out xs[k] (List.getElem_mem hkn)
          have NJ := Lib.hid (fun V => rnum18_any xs[k] hy.1 (by omega) V)
          have zJ := Bt.numS_size xs[k]
          have PK := Lib.hid (pkS_take hkn)
          have hsz : S2.size ≤ 30000 := by
            have := pkS_size (xs.take k)
            rw [List.length_take] at this
            rw [hS2.out, ba_size, ba_size]; omega
          generalize Bt.numS xs[k] = TJ at *
          have NS2 : Hid (S2 ++ TJ = S ++ TL ++ pkS (xs.take (k + 1))) := Lib.hid (by rw [PK.out, hS2.out, ba_assoc (S ++ TL)])
          generalize xs[k] = y at *
          have p3 : ¬ (9223372036854775807 < S2.size + TJ.size) := by omega
          clear PK hS2
          go_wp2_with fail
          refine (NJ.out _).mono ?_
          rintro e w8 ⟨rfl, b8⟩
          have B8 := Lib.hid (hB.out.trans (b8.mono hB.out.size))
          have R8 := Lib.hid (hR.out.next b8)
          have K8 := Lib.hid (hK.out.next b8)
          have N8 := Lib.hid (hN.out.next b8)
          have C8 : Hid (w8.cell? ⟨g, o + j, none⟩ = some (.slice (some ⟨g2, o2, none⟩) xs.length cq)) := Lib.hid ((b8.cell (p := ⟨g, _, none⟩) hG.out).trans hC.out)
          have G8 : Hid (g < w8.heap.size) := Lib.hid (Nat.lt_of_lt_of_le hG.out b8.size)
          clear b8 NJ hB hR hK hN hC hG k1 k2 ck2 hg2
          go_wp2_with fail
          go_roundw
          case rel => exact ⟨k + 1, _, rfl, by go_num, by omega, NS2, B8, R8, K8, N8, C8, G8⟩
          case measure => simp [intOf]; omega
        · obtain rfl : k = xs.length := by omega
          have kI : ¬ (xs.length : Int) < (xs.length : Int) := by omega
          have NS3 : Hid (S2 = T1 ++ T2 ++ bodS (LL.take (j + 1))) := Lib.hid (by
            rw [← NS.out, MT.out, hS2.out, List.take_of_length_le (Nat.le_refl _), ba_assoc])
          clear hS2
          go_wp2_with fail
          go_roundw
          case rel => exact ⟨j + 1, S2, rfl, by go_num, by omega, NS3, hB, hR, hK⟩
          case measure => simp [intOf]; omega
    · obtain rfl : j = LL.length := by omega
      have jI : ¬ (LL.length : Int) < (LL.length : Int) := by omega
      obtain rfl : S = E := hS.out.trans RE.out.symm
      have BB := hB.out
      clear hB hR hK hS
      go_wp2_with fail
      go_ret
      exact ⟨rfl, BB⟩
end Go.Proofs.Ytlcgicgdlhnfoaa
