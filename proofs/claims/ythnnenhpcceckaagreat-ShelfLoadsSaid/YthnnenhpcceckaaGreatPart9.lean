/-
  WHAT THE ROWS REST ON, part 9: Llw.
-/
import Derived.Test.YthnnenhpcceckaaGreatPart8
/-
  THE LAW OF ShelfLoads, as a walk.
-/
namespace Go.Proofs.YthnnenhpcceckaaGreat
open Go.RowKit
set_option maxHeartbeats 8000000 in
set_option maxRecDepth 100000 in
theorem loads_law (a : Option Addr) (c : Nat) (L : List FT) (w : World) (hx : Filed w a L) (hz : ∀ x ∈ L, x.n.size ≤ 9223372036854775807) :
    Calls Tryz.prog 3 #[.slice a L.length c] w fun e w' => e = .returned (.bool true) ∧ Below w.heap.size w w' := by
  have HX := Lib.hid hx
  have HZ := Lib.hid hz
  have NW := Lib.hid (newd w)
  clear hx hz
  obtain ⟨n, hn⟩ : ∃ n, L.length = n := ⟨_, rfl⟩
  rw [hn]
  have HN := Lib.hid hn
  clear hn
  go_enter Tryz.func3, Tryz.ntmps3
  go_wp2_with fail
  refine NW.out.mono ?_
  rintro e w1 ⟨D, rfl, d1, b1⟩
  have J0 := Lib.hid (lj_new d1 b1)
  clear d1 b1 NW
  go_wp2_with fail
  go_loopw [4] (fun i wq => ∃ k : Nat, i = .int .i64 k ∧ k ≤ 8 ∧ k ≤ n ∧ Lj w wq D k) (fun i _ => 8 - (intOf i).toNat)
  case atStart => exact ⟨0, rfl, by omega, by omega, J0.out⟩
  case round =>
    obtain ⟨k, rfl, hk8, hkn, hj⟩ := hrel
    have JJ := Lib.hid hj
    clear hj J0
    by_cases hlt : k < n ∧ k < 8
    · obtain ⟨h1, h2⟩ := hlt
      have hkL : k < L.length := by rw [HN.out]; exact h1
      have hsz := HZ.out L[k] (List.getElem_mem hkL)
      obtain ⟨g, o, rfl, hg, c0, c1⟩ := (HX.out.below JJ.out.2) k hkL
      have JM : Hid (Lj w wr D (k + 1)) := Lib.hid (by
        obtain ⟨⟨S, ⟨m, d, hm⟩, ok, up, ht, hr, few, nm, sm⟩, b⟩ := JJ.out
        exact ⟨⟨S, ⟨m, d, by omega⟩, ok, up, ht, hr, by omega, nm, sm⟩, b⟩)
      have PT := Lib.hid (fun s (hs : s.size ≤ 6000) => lj_put (w := w) (W := wr.drew) (D := D) (k := k) (f := L[k].n) (s := s) (by
        obtain ⟨⟨S, ⟨m, d, hm⟩, ok, up, ht, hr, few, nm, sm⟩, b⟩ := JJ.out
        exact ⟨⟨S, ⟨m, d.below ⟨rfl, rfl, rfl, Nat.le_refl _, fun _ _ => rfl⟩, hm⟩, ok, up, ht, hr, few, nm, sm⟩, b.trans ⟨rfl, rfl, rfl, Nat.le_refl _, fun _ _ => rfl⟩⟩) hk8 hsz hs)
      generalize L[k] = x at *
      obtain ⟨xn, xs⟩ := x
      simp only at c0 c1 PT
      clear hkL hsz
      by_cases h3 : xs.size ≤ 6000
      · have P := Lib.hid (PT.out xs h3)
        clear PT
        go_wp2_with fail
        go_still_tail 11, (by kernel_rfl)
        change wpList _ _ _ _ _ wr.drew
        generalize wr.drew = w2 at *
        go_wp2_with fail
        refine P.out.mono ?_
        rintro e w3 ⟨⟨v, rfl⟩, j3⟩
        have J3 := Lib.hid j3
        clear j3 P
        go_wp2_with fail
        go_roundw
        case rel => exact ⟨k + 1, by go_num, by omega, by omega, J3.out⟩
        case measure => simp [intOf]; omega
      · clear PT
        go_wp2_with fail
        go_roundw
        case rel => exact ⟨k + 1, by go_num, by omega, by omega, JM.out⟩
        case measure => simp [intOf]; omega
    · have SY := Lib.hid (lj_sync JJ.out hk8)
      have h8 : k < n → ¬ k < 8 := fun h1 h2 => hlt ⟨h1, h2⟩
      clear hlt JJ
      by_cases h1 : k < n
      · have h2 := h8 h1
        clear h8
        go_wp2_with fail
        refine SY.out.mono ?_
        rintro e w2 ⟨rfl, S, l2⟩
        have LS2 := Lib.hid l2
        have CA := Lib.hid (fun W (h : Below w2.heap.size w2 W) => ls_calls (l2.below h))
        have FI := Lib.hid (ls_files l2)
        clear l2 SY
        go_wp2_with fail
        refine (CA.out _ (Below.refl _ _)).mono ?_
        rintro e w3 ⟨rfl, rfl⟩
        go_wp2_with fail
        refine FI.out.mono ?_
        rintro e w3 ⟨p, cp, rfl, T3, b3, _⟩
        have LS3 := LS2.out.below b3
        obtain ⟨m, hm⟩ : ∃ m, (filesOf S).length = m := ⟨_, rfl⟩
        rw [hm]
        have LV := Lib.hid (fun W (h : Below w3.heap.size w3 W) => ls_vote (LS3.below h))
        have LN := Lib.hid (fun W (h : Below w3.heap.size w3 W) => ls_snap (LS3.below h))
        have RV := Lib.hid (fun W (h : Below w3.heap.size w3 W) => ls_rvote (LS3.below h) (cp := cp) hm (T3.below h))
        have RN := Lib.hid (fun W (h : Below w3.heap.size w3 W) => ls_rsnap (LS3.below h) (cp := cp) hm (T3.below h))
        have CB := Lib.hid (fun W (h : Below w3.heap.size w3 W) => ls_calls (LS3.below h))
        have BW := Lib.hid LS3.b
        clear CA FI LS2 LS3 T3 b3 hm
        generalize S.calls = nc at *
        generalize ldV (Option.map str (get S.now nV)) = xv at *
        generalize ldS (Option.map str (get S.now nS)) = xs at *
        obtain ⟨va, vb, vn⟩ := xv
        obtain ⟨si, st, sm, ss, sb, sn⟩ := xs
        unfold LvR voteV at LV RV
        unfold LsR ldSV snapV at LN RN
        simp only at LV RV LN RN
        go_wp2_with fail
        refine (LV.out _ (Below.refl w3.heap.size w3)).mono ?_
        rintro e w4 ⟨rfl, b_w4⟩
        have B_w4 := (Below.refl w3.heap.size w3).trans (b_w4.mono (Below.refl w3.heap.size w3).size)
        have S_w5 := (Below.refl w4.heap.size w4).alloc (Nat.le_refl _) (.cells #[.int .i64 va, .int .i64 vb] 33)
        have K1_0 := Blk.new w4 33 #[.int .i64 va, .int .i64 vb]
        obtain ⟨w5, h_w5⟩ : ∃ w5, w5 = w4.alloc (.cells #[.int .i64 va, .int .i64 vb] 33) := ⟨_, rfl⟩
        rw [← h_w5] at S_w5 K1_0
        have K1 := K1_0
        have B5 := B_w4.trans (S_w5.mono B_w4.size)
        have H_w5 := Lib.hid h_w5
        have K1H := Lib.hid K1
        have B5H := Lib.hid B5
        clear h_w5 S_w5 K1_0 b_w4 B_w4   K1 B5
        have HPK1 : Hid (w4.heap.size < w5.heap.size) := Lib.hid (by rw [H_w5.out]; simp)
        go_wp2_with fail
        rw [← H_w5.out]
        clear H_w5
        generalize w4.heap.size = P1 at *
        have K1 := K1H.out
        have B5 := B5H.out
        refine (RV.out _ B5).mono ?_
        rintro e w6 ⟨rfl, b_w6⟩
        have K1_w6 := K1.below b_w6 K1.lt
        have B_w6 := B5.trans (b_w6.mono B5.size)
        have S_w7 := (Below.refl w6.heap.size w6).alloc (Nat.le_refl _) (.cells #[.int .i64 va, .int .i64 vb] 36)
        have K2_0 := Blk.new w6 36 #[.int .i64 va, .int .i64 vb]
        obtain ⟨w7, h_w7⟩ : ∃ w7, w7 = w6.alloc (.cells #[.int .i64 va, .int .i64 vb] 36) := ⟨_, rfl⟩
        rw [← h_w7] at S_w7 K2_0
        have K1 := K1_w6.below S_w7 K1_w6.lt
        have K2 := K2_0
        have B7 := B_w6.trans (S_w7.mono B_w6.size)
        have H_w7 := Lib.hid h_w7
        have K1H := Lib.hid K1
        have K2H := Lib.hid K2
        have B7H := Lib.hid B7
        clear h_w7 S_w7 K2_0 b_w6 B_w6 K1_w6 K1 K2 B7
        have HPK2 : Hid (w6.heap.size < w7.heap.size) := Lib.hid (by rw [H_w7.out]; simp)
        go_wp2_with fail
        rw [← H_w7.out]
        clear H_w7
        generalize w6.heap.size = P2 at *
        have K1 := K1H.out
        have K2 := K2H.out
        have B7 := B7H.out
        refine (LN.out _ B7).mono ?_
        rintro e w8 ⟨rfl, b_w8⟩
        have K1_w8 := K1.below b_w8 K1.lt
        have K2_w8 := K2.below b_w8 K2.lt
        have B_w8 := B7.trans (b_w8.mono B7.size)
        have S_w9 := (Below.refl w8.heap.size w8).alloc (Nat.le_refl _) (.cells #[.int .i64 si, .int .i64 st, .int .i64 sm, .string ss] 40)
        have K3_0 := Blk.new w8 40 #[.int .i64 si, .int .i64 st, .int .i64 sm, .string ss]
        obtain ⟨w9, h_w9⟩ : ∃ w9, w9 = w8.alloc (.cells #[.int .i64 si, .int .i64 st, .int .i64 sm, .string ss] 40) := ⟨_, rfl⟩
        rw [← h_w9] at S_w9 K3_0
        have K1 := K1_w8.below S_w9 K1_w8.lt
        have K2 := K2_w8.below S_w9 K2_w8.lt
        have K3 := K3_0
        have B9 := B_w8.trans (S_w9.mono B_w8.size)
        have H_w9 := Lib.hid h_w9
        have K1H := Lib.hid K1
        have K2H := Lib.hid K2
        have K3H := Lib.hid K3
        have B9H := Lib.hid B9
        clear h_w9 S_w9 K3_0 b_w8 B_w8 K1_w8 K2_w8 K1 K2 K3 B9
        have HPK3 : Hid (w8.heap.size < w9.heap.size) := Lib.hid (by rw [H_w9.out]; simp)
        go_wp2_with fail
        rw [← H_w9.out]
        clear H_w9
        generalize w8.heap.size = P3 at *
        have K1 := K1H.out
        have K2 := K2H.out
        have K3 := K3H.out
        have B9 := B9H.out
        refine (RN.out _ B9).mono ?_
        rintro e w10 ⟨rfl, b_w10⟩
        have K1_w10 := K1.below b_w10 K1.lt
        have K2_w10 := K2.below b_w10 K2.lt
        have K3_w10 := K3.below b_w10 K3.lt
        have B_w10 := B9.trans (b_w10.mono B9.size)
        have S_w11 := (Below.refl w10.heap.size w10).alloc (Nat.le_refl _) (.cells #[.int .i64 si, .int .i64 st, .int .i64 sm, .string ss] 43)
        have K4_0 := Blk.new w10 43 #[.int .i64 si, .int .i64 st, .int .i64 sm, .string ss]
        obtain ⟨w11, h_w11⟩ : ∃ w11, w11 = w10.alloc (.cells #[.int .i64 si, .int .i64 st, .int .i64 sm, .string ss] 43) := ⟨_, rfl⟩
        rw [← h_w11] at S_w11 K4_0
        have K1 := K1_w10.below S_w11 K1_w10.lt
        have K2 := K2_w10.below S_w11 K2_w10.lt
        have K3 := K3_w10.below S_w11 K3_w10.lt
        have K4 := K4_0
        have B11 := B_w10.trans (S_w11.mono B_w10.size)
        have H_w11 := Lib.hid h_w11
        have K1H := Lib.hid K1
        have K2H := Lib.hid K2
        have K3H := Lib.hid K3
        have K4H := Lib.hid K4
        have B11H := Lib.hid B11
        clear h_w11 S_w11 K4_0 b_w10 B_w10 K1_w10 K2_w10 K3_w10 K1 K2 K3 K4 B11
        have HPK4 : Hid (w10.heap.size < w11.heap.size) := Lib.hid (by rw [H_w11.out]; simp)
        go_wp2_with fail
        rw [← H_w11.out]
        clear H_w11
        generalize w10.heap.size = P4 at *
        refine (awake_any _).mono ?_
        rintro e w12 ⟨rfl, b12⟩
        have K1 := K1H.out.below b12 K1H.out.lt
        have K2 := K2H.out.below b12 K2H.out.lt
        have K3 := K3H.out.below b12 K3H.out.lt
        have K4 := K4H.out.below b12 K4H.out.lt
        have B12 := B11H.out.trans (b12.mono B11H.out.size)
        have CC := Lib.hid (CB.out w12 B12)
        have FIN := Lib.hid (BW.out.trans (B12.mono BW.out.size))
        have c_K1_0 : w12.cell? ⟨P1, 0, none⟩ = some (.int .i64 va) := K1.cell 0
        have c_K1_1 : w12.cell? ⟨P1, 1, none⟩ = some (.int .i64 vb) := K1.cell 1
        have c_K2_0 : w12.cell? ⟨P2, 0, none⟩ = some (.int .i64 va) := K2.cell 0
        have c_K2_1 : w12.cell? ⟨P2, 1, none⟩ = some (.int .i64 vb) := K2.cell 1
        have c_K3_0 : w12.cell? ⟨P3, 0, none⟩ = some (.int .i64 si) := K3.cell 0
        have c_K3_1 : w12.cell? ⟨P3, 1, none⟩ = some (.int .i64 st) := K3.cell 1
        have c_K3_2 : w12.cell? ⟨P3, 2, none⟩ = some (.int .i64 sm) := K3.cell 2
        have c_K3_3 : w12.cell? ⟨P3, 3, none⟩ = some (.string ss) := K3.cell 3
        have c_K4_0 : w12.cell? ⟨P4, 0, none⟩ = some (.int .i64 si) := K4.cell 0
        have c_K4_1 : w12.cell? ⟨P4, 1, none⟩ = some (.int .i64 st) := K4.cell 1
        have c_K4_2 : w12.cell? ⟨P4, 2, none⟩ = some (.int .i64 sm) := K4.cell 2
        have c_K4_3 : w12.cell? ⟨P4, 3, none⟩ = some (.string ss) := K4.cell 3
        clear K1 K2 K3 K4 B12 b12 K1H K2H K3H K4H B11H B9H B7H B5H
        go_wp2_with fail
        refine CC.out.mono ?_
        rintro e w13 ⟨rfl, rfl⟩
        go_wp2_with fail
        go_ret
        exact ⟨rfl, FIN.out⟩
      · clear h8
        go_wp2_with fail
        refine SY.out.mono ?_
        rintro e w2 ⟨rfl, S, l2⟩
        have LS2 := Lib.hid l2
        have CA := Lib.hid (fun W (h : Below w2.heap.size w2 W) => ls_calls (l2.below h))
        have FI := Lib.hid (ls_files l2)
        clear l2 SY
        go_wp2_with fail
        refine (CA.out _ (Below.refl _ _)).mono ?_
        rintro e w3 ⟨rfl, rfl⟩
        go_wp2_with fail
        refine FI.out.mono ?_
        rintro e w3 ⟨p, cp, rfl, T3, b3, _⟩
        have LS3 := LS2.out.below b3
        obtain ⟨m, hm⟩ : ∃ m, (filesOf S).length = m := ⟨_, rfl⟩
        rw [hm]
        have LV := Lib.hid (fun W (h : Below w3.heap.size w3 W) => ls_vote (LS3.below h))
        have LN := Lib.hid (fun W (h : Below w3.heap.size w3 W) => ls_snap (LS3.below h))
        have RV := Lib.hid (fun W (h : Below w3.heap.size w3 W) => ls_rvote (LS3.below h) (cp := cp) hm (T3.below h))
        have RN := Lib.hid (fun W (h : Below w3.heap.size w3 W) => ls_rsnap (LS3.below h) (cp := cp) hm (T3.below h))
        have CB := Lib.hid (fun W (h : Below w3.heap.size w3 W) => ls_calls (LS3.below h))
        have BW := Lib.hid LS3.b
        clear CA FI LS2 LS3 T3 b3 hm
        generalize S.calls = nc at *
        generalize ldV (Option.map str (get S.now nV)) = xv at *
        generalize ldS (Option.map str (get S.now nS)) = xs at *
        obtain ⟨va, vb, vn⟩ := xv
        obtain ⟨si, st, sm, ss, sb, sn⟩ := xs
        unfold LvR voteV at LV RV
        unfold LsR ldSV snapV at LN RN
        simp only at LV RV LN RN
        go_wp2_with fail
        refine (LV.out _ (Below.refl w3.heap.size w3)).mono ?_
        rintro e w4 ⟨rfl, b_w4⟩
        have B_w4 := (Below.refl w3.heap.size w3).trans (b_w4.mono (Below.refl w3.heap.size w3).size)
        have S_w5 := (Below.refl w4.heap.size w4).alloc (Nat.le_refl _) (.cells #[.int .i64 va, .int .i64 vb] 33)
        have K1_0 := Blk.new w4 33 #[.int .i64 va, .int .i64 vb]
        obtain ⟨w5, h_w5⟩ : ∃ w5, w5 = w4.alloc (.cells #[.int .i64 va, .int .i64 vb] 33) := ⟨_, rfl⟩
        rw [← h_w5] at S_w5 K1_0
        have K1 := K1_0
        have B5 := B_w4.trans (S_w5.mono B_w4.size)
        have H_w5 := Lib.hid h_w5
        have K1H := Lib.hid K1
        have B5H := Lib.hid B5
        clear h_w5 S_w5 K1_0 b_w4 B_w4   K1 B5
        have HPK1 : Hid (w4.heap.size < w5.heap.size) := Lib.hid (by rw [H_w5.out]; simp)
        go_wp2_with fail
        rw [← H_w5.out]
        clear H_w5
        generalize w4.heap.size = P1 at *
        have K1 := K1H.out
        have B5 := B5H.out
        refine (RV.out _ B5).mono ?_
        rintro e w6 ⟨rfl, b_w6⟩
        have K1_w6 := K1.below b_w6 K1.lt
        have B_w6 := B5.trans (b_w6.mono B5.size)
        have S_w7 := (Below.refl w6.heap.size w6).alloc (Nat.le_refl _) (.cells #[.int .i64 va, .int .i64 vb] 36)
        have K2_0 := Blk.new w6 36 #[.int .i64 va, .int .i64 vb]
        obtain ⟨w7, h_w7⟩ : ∃ w7, w7 = w6.alloc (.cells #[.int .i64 va, .int .i64 vb] 36) := ⟨_, rfl⟩
        rw [← h_w7] at S_w7 K2_0
        have K1 := K1_w6.below S_w7 K1_w6.lt
        have K2 := K2_0
        have B7 := B_w6.trans (S_w7.mono B_w6.size)
        have H_w7 := Lib.hid h_w7
        have K1H := Lib.hid K1
        have K2H := Lib.hid K2
        have B7H := Lib.hid B7
        clear h_w7 S_w7 K2_0 b_w6 B_w6 K1_w6 K1 K2 B7
        have HPK2 : Hid (w6.heap.size < w7.heap.size) := Lib.hid (by rw [H_w7.out]; simp)
        go_wp2_with fail
        rw [← H_w7.out]
        clear H_w7
        generalize w6.heap.size = P2 at *
        have K1 := K1H.out
        have K2 := K2H.out
        have B7 := B7H.out
        refine (LN.out _ B7).mono ?_
        rintro e w8 ⟨rfl, b_w8⟩
        have K1_w8 := K1.below b_w8 K1.lt
        have K2_w8 := K2.below b_w8 K2.lt
        have B_w8 := B7.trans (b_w8.mono B7.size)
        have S_w9 := (Below.refl w8.heap.size w8).alloc (Nat.le_refl _) (.cells #[.int .i64 si, .int .i64 st, .int .i64 sm, .string ss] 40)
        have K3_0 := Blk.new w8 40 #[.int .i64 si, .int .i64 st, .int .i64 sm, .string ss]
        obtain ⟨w9, h_w9⟩ : ∃ w9, w9 = w8.alloc (.cells #[.int .i64 si, .int .i64 st, .int .i64 sm, .string ss] 40) := ⟨_, rfl⟩
        rw [← h_w9] at S_w9 K3_0
        have K1 := K1_w8.below S_w9 K1_w8.lt
        have K2 := K2_w8.below S_w9 K2_w8.lt
        have K3 := K3_0
        have B9 := B_w8.trans (S_w9.mono B_w8.size)
        have H_w9 := Lib.hid h_w9
        have K1H := Lib.hid K1
        have K2H := Lib.hid K2
        have K3H := Lib.hid K3
        have B9H := Lib.hid B9
        clear h_w9 S_w9 K3_0 b_w8 B_w8 K1_w8 K2_w8 K1 K2 K3 B9
        have HPK3 : Hid (w8.heap.size < w9.heap.size) := Lib.hid (by rw [H_w9.out]; simp)
        go_wp2_with fail
        rw [← H_w9.out]
        clear H_w9
        generalize w8.heap.size = P3 at *
        have K1 := K1H.out
        have K2 := K2H.out
        have K3 := K3H.out
        have B9 := B9H.out
        refine (RN.out _ B9).mono ?_
        rintro e w10 ⟨rfl, b_w10⟩
        have K1_w10 := K1.below b_w10 K1.lt
        have K2_w10 := K2.below b_w10 K2.lt
        have K3_w10 := K3.below b_w10 K3.lt
        have B_w10 := B9.trans (b_w10.mono B9.size)
        have S_w11 := (Below.refl w10.heap.size w10).alloc (Nat.le_refl _) (.cells #[.int .i64 si, .int .i64 st, .int .i64 sm, .string ss] 43)
        have K4_0 := Blk.new w10 43 #[.int .i64 si, .int .i64 st, .int .i64 sm, .string ss]
        obtain ⟨w11, h_w11⟩ : ∃ w11, w11 = w10.alloc (.cells #[.int .i64 si, .int .i64 st, .int .i64 sm, .string ss] 43) := ⟨_, rfl⟩
        rw [← h_w11] at S_w11 K4_0
        have K1 := K1_w10.below S_w11 K1_w10.lt
        have K2 := K2_w10.below S_w11 K2_w10.lt
        have K3 := K3_w10.below S_w11 K3_w10.lt
        have K4 := K4_0
        have B11 := B_w10.trans (S_w11.mono B_w10.size)
        have H_w11 := Lib.hid h_w11
        have K1H := Lib.hid K1
        have K2H := Lib.hid K2
        have K3H := Lib.hid K3
        have K4H := Lib.hid K4
        have B11H := Lib.hid B11
        clear h_w11 S_w11 K4_0 b_w10 B_w10 K1_w10 K2_w10 K3_w10 K1 K2 K3 K4 B11
        have HPK4 : Hid (w10.heap.size < w11.heap.size) := Lib.hid (by rw [H_w11.out]; simp)
        go_wp2_with fail
        rw [← H_w11.out]
        clear H_w11
        generalize w10.heap.size = P4 at *
        refine (awake_any _).mono ?_
        rintro e w12 ⟨rfl, b12⟩
        have K1 := K1H.out.below b12 K1H.out.lt
        have K2 := K2H.out.below b12 K2H.out.lt
        have K3 := K3H.out.below b12 K3H.out.lt
        have K4 := K4H.out.below b12 K4H.out.lt
        have B12 := B11H.out.trans (b12.mono B11H.out.size)
        have CC := Lib.hid (CB.out w12 B12)
        have FIN := Lib.hid (BW.out.trans (B12.mono BW.out.size))
        have c_K1_0 : w12.cell? ⟨P1, 0, none⟩ = some (.int .i64 va) := K1.cell 0
        have c_K1_1 : w12.cell? ⟨P1, 1, none⟩ = some (.int .i64 vb) := K1.cell 1
        have c_K2_0 : w12.cell? ⟨P2, 0, none⟩ = some (.int .i64 va) := K2.cell 0
        have c_K2_1 : w12.cell? ⟨P2, 1, none⟩ = some (.int .i64 vb) := K2.cell 1
        have c_K3_0 : w12.cell? ⟨P3, 0, none⟩ = some (.int .i64 si) := K3.cell 0
        have c_K3_1 : w12.cell? ⟨P3, 1, none⟩ = some (.int .i64 st) := K3.cell 1
        have c_K3_2 : w12.cell? ⟨P3, 2, none⟩ = some (.int .i64 sm) := K3.cell 2
        have c_K3_3 : w12.cell? ⟨P3, 3, none⟩ = some (.string ss) := K3.cell 3
        have c_K4_0 : w12.cell? ⟨P4, 0, none⟩ = some (.int .i64 si) := K4.cell 0
        have c_K4_1 : w12.cell? ⟨P4, 1, none⟩ = some (.int .i64 st) := K4.cell 1
        have c_K4_2 : w12.cell? ⟨P4, 2, none⟩ = some (.int .i64 sm) := K4.cell 2
        have c_K4_3 : w12.cell? ⟨P4, 3, none⟩ = some (.string ss) := K4.cell 3
        clear K1 K2 K3 K4 B12 b12 K1H K2H K3H K4H B11H B9H B7H B5H
        go_wp2_with fail
        refine CC.out.mono ?_
        rintro e w13 ⟨rfl, rfl⟩
        go_wp2_with fail
        go_ret
        exact ⟨rfl, FIN.out⟩
end Go.Proofs.YthnnenhpcceckaaGreat
