/-
  THE DOCUMENT'S Read.
-/
import Derived.Test.YtifdljdnpdefgaaDsm
import Derived.Test.YtifdljdnpdefgaaKbl
namespace Go.Proofs.Ytifdljdnpdefgaa
open Go.RowKit
/-- ahead of the fixed blocks -/
structure Dz (w wq : World) (Y N : Nat) : Prop where
  y : Blk wq Y 34 #[.int .i64 0, .int .i64 0, .int .i64 0, .slice none 0 0]
  n : Blk wq N 34 #[.int .i64 0, .int .i64 0, .int .i64 0, .slice none 0 0]
  w0 : Below w.heap.size w wq
theorem Dz.below {w wq w' : World} {Y N : Nat} (h : Dz w wq Y N) (k : Below wq.heap.size wq w') : Dz w w' Y N := ⟨h.y.over k, h.n.over k, h.w0.trans (k.mono h.w0.size)⟩
theorem Dz.al {w wq : World} {Y N : Nat} (h : Dz w wq Y N) (o : Obj) : Dz w (wq.alloc o) Y N := h.below ((Below.refl wq.heap.size wq).alloc (Nat.le_refl _) o)
theorem dRun_P (t : Tp) (X : Rn × Tp) (h : dRun t = some X) : X.1.P.length ≤ 16 := by
  unfold dRun at h
  split at h
  · cases h
  · rw [Option.map_eq_some_iff] at h
    obtain ⟨I, hI, rfl⟩ := h
    have := (dIter_last _ _ _ I hI).2.2.1
    simp only [List.length_cons]
    omega
theorem dRuns_P (k : Nat) (t : Tp) (X : List Rn × Tp) (h : dRuns k t = some X) : ∀ r ∈ X.1, r.P.length ≤ 140737488355328 := by
  induction k generalizing X with
  | zero => cases h; intro r hr; simp at hr
  | succ k ih =>
    rw [dRuns, Option.bind_eq_some_iff] at h
    obtain ⟨Z, hZ, hX⟩ := h
    rw [Option.map_eq_some_iff] at hX
    obtain ⟨r, hr, rfl⟩ := hX
    intro x hx
    rcases List.mem_append.1 hx with h | h
    · exact ih Z hZ x h
    · simp only [List.mem_singleton] at h
      subst h
      have := dRun_P _ r hr
      omega
theorem wraps {k m5 mk : Nat} {p0 pk : Int} (hk1 : 1 ≤ k) (hkn : k < m5) (h15 : ¬ 15 < m5) (h1 : p0 ≤ 549755813888) (h2 : -1 ≤ p0) (h3 : p0 ≤ pk) (h4 : pk ≤ p0 + ((k - 1 : Nat) : Int) * 549755813889) (hmk : ¬ 549755813888 < mk) :
    IntKind.i64.wrap (mk : Int) = (mk : Int) ∧ wrap64 (mk : Int) = (mk : Int) ∧ IntKind.i64.wrap (pk + (mk : Int)) = pk + (mk : Int) ∧ wrap64 (pk + (mk : Int)) = pk + (mk : Int) ∧ IntKind.i64.wrap (pk + (mk : Int) + 1) = pk + (mk : Int) + 1 ∧ wrap64 (pk + (mk : Int) + 1) = pk + (mk : Int) + 1 := by
  have hkk : ((k - 1 : Nat) : Int) * 549755813889 ≤ 15 * 549755813889 := by omega
  exact ⟨IntWalk.i64_in _ (by omega), IntWalk.wrap64_in _ (by omega), IntWalk.i64_in _ (by omega), IntWalk.wrap64_in _ (by omega), IntWalk.i64_in _ (by omega), IntWalk.wrap64_in _ (by omega)⟩
set_option maxHeartbeats 16000000 in
set_option maxRecDepth 100000 in
theorem rread_any (s : ByteArray) (hs : s.size ≤ 281474976710656) (w : World) : Calls Try.prog 12 #[.string s] w (Readd w s) := by
  have hs1 := Nat.le_trans (pn_le (s, 0)) hs
  have hs2 := Nat.le_trans (pn_le (pn (s, 0)).2) hs1
  have hs3 := Nat.le_trans (pn_le (pn (pn (s, 0)).2).2) hs2
  have hs4 := Nat.le_trans (pn_le (pn (pn (pn (s, 0)).2).2).2) hs3
  have N1 := Lib.hid (fun W => rn_any (s, 0) hs W)
  have N2 := Lib.hid (fun W => rn_any (pn (s, 0)).2 hs1 W)
  have N3 := Lib.hid (fun W => rn_any (pn (pn (s, 0)).2).2 hs2 W)
  have N4 := Lib.hid (fun W => rn_any (pn (pn (pn (s, 0)).2).2).2 hs3 W)
  have HA := Lib.hid (show dAll s = if 64 < (pn (pn (pn (pn (s, 0)).2).2).2).1 then none
  else (dRuns (pn (pn (pn (pn (s, 0)).2).2).2).1 (pn (pn (pn (pn (s, 0)).2).2).2).2).map fun X =>
    ((limN (pn (s, 0)).1 549755813888, limN (pn (pn (s, 0)).2).1 9223372036854775807, limN (pn (pn (pn (s, 0)).2).2).1 549755813888, X.1), X.2) from rfl)
  generalize pn (pn (pn (pn (s, 0)).2).2).2 = y4 at *
  generalize pn (pn (pn (s, 0)).2).2 = y3 at *
  generalize pn (pn (s, 0)).2 = y2 at *
  generalize pn (s, 0) = y1 at *
  obtain ⟨n1, s1, e1⟩ := y1
  obtain ⟨n2, s2, e2⟩ := y2
  obtain ⟨n3, s3, e3⟩ := y3
  obtain ⟨n4, s4, e4⟩ := y4
  simp only at N1 N2 N3 N4 hs4 HA
  clear hs1 hs2 hs3
  have L1 := Lib.hid (fun W => lim_any n1 549755813888 (by omega) W)
  have L2 := Lib.hid (fun W => lim_any n2 9223372036854775807 (by omega) W)
  have L3 := Lib.hid (fun W => lim_any n3 549755813888 (by omega) W)
  generalize limN n1 549755813888 = k1 at *
  generalize limN n2 9223372036854775807 = k2 at *
  generalize limN n3 549755813888 = k3 at *
  have Z0 : Hid (Dz w ((w.alloc (.cells #[.int .i64 0, .int .i64 0, .int .i64 0, .slice none 0 0] 34)).alloc (.cells #[.int .i64 0, .int .i64 0, .int .i64 0, .slice none 0 0] 34)) w.heap.size (w.heap.size + 1)) := Lib.hid ⟨Blk.al (Blk.new w 34 _) _, Blk.new2 _ 34 _ (by simp), ((Below.refl w.heap.size w).alloc (Nat.le_refl _) _).alloc (by simp) _⟩
  go_enter Try.func12, Try.ntmps12
  go_wp2_with fail
  generalize (w.alloc (.cells #[.int .i64 0, .int .i64 0, .int .i64 0, .slice none 0 0] 34)).alloc (.cells #[.int .i64 0, .int .i64 0, .int .i64 0, .slice none 0 0] 34) = W0 at *
  generalize hY : w.heap.size = Y at *
  have hYw : Hid (w.heap.size = Y) := Lib.hid hY
  refine (N1.out _).mono ?_
  rintro e w1 ⟨rfl, b1⟩
  have Z1 := Lib.hid (Z0.out.below b1)
  have Zb1 := Lib.hid (Z1.out.al (.cells #[.string s1, .int .i64 e1] 60))
  clear b1
  have cc0 : (w1.alloc (.cells #[.string s1, .int .i64 e1] 60)).cell? ⟨w1.heap.size, 0, none⟩ = some (.string s1) := (Blk.new w1 60 #[.string s1, .int .i64 e1]).cell 0
  have cc1 : (w1.alloc (.cells #[.string s1, .int .i64 e1] 60)).cell? ⟨w1.heap.size, 1, none⟩ = some (.int .i64 e1) := (Blk.new w1 60 #[.string s1, .int .i64 e1]).cell 1
  go_wp2_with fail
  refine (N2.out _).mono ?_
  rintro e w2 ⟨rfl, b2⟩
  have Z2 := Lib.hid (Zb1.out.below b2)
  have Zb2 := Lib.hid (Z2.out.al (.cells #[.string s2, .int .i64 e2] 60))
  clear b2 cc0 cc1
  have cc0 : (w2.alloc (.cells #[.string s2, .int .i64 e2] 60)).cell? ⟨w2.heap.size, 0, none⟩ = some (.string s2) := (Blk.new w2 60 #[.string s2, .int .i64 e2]).cell 0
  have cc1 : (w2.alloc (.cells #[.string s2, .int .i64 e2] 60)).cell? ⟨w2.heap.size, 1, none⟩ = some (.int .i64 e2) := (Blk.new w2 60 #[.string s2, .int .i64 e2]).cell 1
  go_wp2_with fail
  refine (N3.out _).mono ?_
  rintro e w3 ⟨rfl, b3⟩
  have Z3 := Lib.hid (Zb2.out.below b3)
  have Zb3 := Lib.hid (Z3.out.al (.cells #[.string s3, .int .i64 e3] 60))
  clear b3 cc0 cc1
  have cc0 : (w3.alloc (.cells #[.string s3, .int .i64 e3] 60)).cell? ⟨w3.heap.size, 0, none⟩ = some (.string s3) := (Blk.new w3 60 #[.string s3, .int .i64 e3]).cell 0
  have cc1 : (w3.alloc (.cells #[.string s3, .int .i64 e3] 60)).cell? ⟨w3.heap.size, 1, none⟩ = some (.int .i64 e3) := (Blk.new w3 60 #[.string s3, .int .i64 e3]).cell 1
  go_wp2_with fail
  refine (N4.out _).mono ?_
  rintro e w4 ⟨rfl, b4⟩
  have Z4 := Lib.hid (Zb3.out.below b4)
  have Zb4 := Lib.hid (Z4.out.al (.cells #[.string s4, .int .i64 e4] 60))
  clear b4 cc0 cc1
  have cc0 : (w4.alloc (.cells #[.string s4, .int .i64 e4] 60)).cell? ⟨w4.heap.size, 0, none⟩ = some (.string s4) := (Blk.new w4 60 #[.string s4, .int .i64 e4]).cell 0
  have cc1 : (w4.alloc (.cells #[.string s4, .int .i64 e4] 60)).cell? ⟨w4.heap.size, 1, none⟩ = some (.int .i64 e4) := (Blk.new w4 60 #[.string s4, .int .i64 e4]).cell 1
  go_wp2_with fail
  refine (L1.out _).mono ?_
  rintro e _ ⟨rfl, rfl⟩
  go_wp2_with fail
  refine (L2.out _).mono ?_
  rintro e _ ⟨rfl, rfl⟩
  go_wp2_with fail
  refine (L3.out _).mono ?_
  rintro e _ ⟨rfl, rfl⟩
  have hzT : (w4.alloc (.cells #[.string s4, .int .i64 e4] 60)).heap.size = w4.heap.size + 1 := by simp
  have KT1 := Blk.al (Blk.new w4 60 #[.string s4, .int .i64 e4]) (.cells #[.int .i64 k1, .int .i64 k2, .int .i64 k3, .slice none 0 0] 34)
  have KX1 := Blk.new (w4.alloc (.cells #[.string s4, .int .i64 e4] 60)) 34 #[.int .i64 k1, .int .i64 k2, .int .i64 k3, .slice none 0 0]
  rw [hzT] at KX1
  have ZX := Zb4.out.al (.cells #[.int .i64 k1, .int .i64 k2, .int .i64 k3, .slice none 0 0] 34)
  have hzX : ((w4.alloc (.cells #[.string s4, .int .i64 e4] 60)).alloc (.cells #[.int .i64 k1, .int .i64 k2, .int .i64 k3, .slice none 0 0] 34)).heap.size = w4.heap.size + 2 := by simp
  have hN4 : Y + 1 < w4.heap.size := Z4.out.n.lt
  have D0 : Hid (Dx w ((w4.alloc (.cells #[.string s4, .int .i64 e4] 60)).alloc (.cells #[.int .i64 k1, .int .i64 k2, .int .i64 k3, .slice none 0 0] 34)) Y (Y + 1) w4.heap.size (w4.heap.size + 1) (w4.heap.size + 2) k1 k2 k3 (s4, e4) (.slice none 0 0) []) :=
    Lib.hid ⟨ZX.y, ZX.n, KX1, KT1, World.ownsRow_nil _ _ _ _, fun y hy => by simp at hy, ZX.w0, by rw [hYw.out]; exact Nat.le_refl _, by omega, hN4, by omega, by omega, by rw [hzX]; exact Nat.le_refl _⟩
  clear KT1 KX1 ZX hzX hzT Z1 Z2 Z3 Z4 Zb4 N1 N2 N3 N4 L1 L2 L3 cc0 cc1
  generalize hT : w4.heap.size = T at *
  go_upto_region 7 with fail
  generalize (w4.alloc (.cells #[.string s4, .int .i64 e4] 60)).alloc (.cells #[.int .i64 k1, .int .i64 k2, .int .i64 k3, .slice none 0 0] 34) = W5 at *
  generalize Y + 1 = N at *
  clear hT hN4 hY
  generalize T + 1 = X at *
  by_cases hm : 64 < n4
  · have hmI : (64 : Int) < (n4 : Int) := by omega
    rw [if_pos hm] at HA
    have EN := Lib.hid (rd_none (s := s) (by rw [← read_one]; unfold dRead; rw [HA.out]; rfl))
    have n0 : W5.cell? ⟨N, 0, none⟩ = some (.int .i64 0) := D0.out.n.cell 0
    have n1 : W5.cell? ⟨N, 1, none⟩ = some (.int .i64 0) := D0.out.n.cell 1
    have n2 : W5.cell? ⟨N, 2, none⟩ = some (.int .i64 0) := D0.out.n.cell 2
    have n3 : W5.cell? ⟨N, 3, none⟩ = some (.slice none 0 0) := D0.out.n.cell 3
    have r0 : W5.cell? ⟨Y, 0, none⟩ = some (.int .i64 0) := D0.out.y.cell 0
    have r1 : W5.cell? ⟨Y, 1, none⟩ = some (.int .i64 0) := D0.out.y.cell 1
    have r2 : W5.cell? ⟨Y, 2, none⟩ = some (.int .i64 0) := D0.out.y.cell 2
    have r3 : W5.cell? ⟨Y, 3, none⟩ = some (.slice none 0 0) := D0.out.y.cell 3
    have rf0 := D0.out.y.free 0
    have rf1 := D0.out.y.free 1
    have rf2 := D0.out.y.free 2
    have rf3 := D0.out.y.free 3
    go_wp2_with fail
    have E9 := Lib.hid (D0.out.end (.int .i64 0) (.int .i64 0) (.int .i64 0) (.slice none 0 0))
    clear n0 n1 n2 n3 r0 r1 r2 r3 rf0 rf1 rf2 rf3
    generalize (((W5.setCell ⟨Y, 0, none⟩ (.int .i64 0)).setCell ⟨Y, 1, none⟩ (.int .i64 0)).setCell ⟨Y, 2, none⟩ (.int .i64 0)).setCell ⟨Y, 3, none⟩ (.slice none 0 0) = wE at *
    have q0 : wE.cell? ⟨Y, 0, none⟩ = some (.int .i64 0) := E9.out.1.cell 0
    have q1 : wE.cell? ⟨Y, 1, none⟩ = some (.int .i64 0) := E9.out.1.cell 1
    have q2 : wE.cell? ⟨Y, 2, none⟩ = some (.int .i64 0) := E9.out.1.cell 2
    have q3 : wE.cell? ⟨Y, 3, none⟩ = some (.slice none 0 0) := E9.out.1.cell 3
    refine bodyPost_ret (by simp [results, Try.results12, go_sem, q0, q1, q2, q3]; try rfl) rfl ?_
    exact ⟨none, 0, by rw [EN.out.1, EN.out.2]; rfl, by rw [EN.out.1]; exact fun p hp => absurd hp (Nat.not_lt_zero p), E9.out.2.1⟩
  · have hmI : ¬ (64 : Int) < (n4 : Int) := by omega
    rw [if_neg hm] at HA
    have hm64 : n4 ≤ 64 := by omega
    have hcv : IntKind.i64.wrap (n4 : Int) = (n4 : Int) := IntWalk.i64_in _ (by omega)
    have hcv2 : wrap64 (n4 : Int) = (n4 : Int) := IntWalk.wrap64_in _ (by omega)
    obtain ⟨B, hB⟩ : ∃ B, B = T + 2 := ⟨_, rfl⟩
    rw [← hB] at D0
    clear hB
    go_wp2_with fail
    go_loopw [14] (fun i wq => ∃ (j : Nat) (LX : List Rn × Tp) (M : List RC) (v : Value), i = .int .i64 (j : Int) ∧ j ≤ n4 ∧ dRuns j (s4, e4) = some LX ∧ M.map RC.r = LX.1 ∧ LX.2.1.size ≤ s4.size ∧ Dx w wq Y N T X B k1 k2 k3 LX.2 v M) (fun i _ => n4 - (intOf i).toNat)
    case atStart => exact ⟨0, ([], (s4, e4)), [], _, rfl, Nat.zero_le _, rfl, rfl, Nat.le_refl _, D0.out⟩
    case round =>
      obtain ⟨j, ⟨LJ, tj⟩, M, v, rfl, hj, hdr, hmr, hsz, hD⟩ := hrel
      have HD := Lib.hid hD
      have HDR := Lib.hid hdr
      have HMR := Lib.hid hmr
      obtain ⟨va, vc, rfl⟩ := hD.form
      clear hD hdr hmr D0
      simp only at HD HMR hsz
      by_cases hjn : j < n4
      · have l1 : (j : Int) < (n4 : Int) := by omega
        obtain ⟨sj, ej⟩ := tj
        simp only at HD hsz
        have z1 := pn_le (sj, ej)
        have z2 := pn_le (pn (sj, ej)).2
        have z3 := pn_le (pn (pn (sj, ej)).2).2
        have z4 := pn_le (pn (pn (pn (sj, ej)).2).2).2
        have z5 := pn_le (pn (pn (pn (pn (sj, ej)).2).2).2).2
        have z0 : (sj, ej).1.size = sj.size := rfl
        have M1 := Lib.hid (fun W => rn_any (sj, ej) (by omega) W)
        have M2 := Lib.hid (fun W => rn_any (pn (sj, ej)).2 (by omega) W)
        have M3 := Lib.hid (fun W => rn_any (pn (pn (sj, ej)).2).2 (by omega) W)
        have M4 := Lib.hid (fun W => rn_any (pn (pn (pn (sj, ej)).2).2).2 (by omega) W)
        have M5 := Lib.hid (fun W => rn_any (pn (pn (pn (pn (sj, ej)).2).2).2).2 (by omega) W)
        have HR := Lib.hid (show dRun (sj, ej) = if (pn (pn (pn (pn (pn (sj, ej)).2).2).2).2).1 < 1 ∨ 15 < (pn (pn (pn (pn (pn (sj, ej)).2).2).2).2).1 then none
  else (dIter ((pn (pn (pn (pn (pn (sj, ej)).2).2).2).2).1 - 1) (limN (pn (sj, ej)).1 549755813888) (pn (pn (pn (pn (pn (sj, ej)).2).2).2).2).2).map fun X =>
    (⟨limN (pn (sj, ej)).1 549755813888, limN (pn (pn (sj, ej)).2).1 9223372036854775807, limN (pn (pn (pn (sj, ej)).2).2).1 63, (pn (pn (pn (pn (sj, ej)).2).2).2).1, limN (pn (sj, ej)).1 549755813888 :: X.1⟩, X.2.2) from rfl)
        generalize pn (pn (pn (pn (pn (sj, ej)).2).2).2).2 = y5 at *
        generalize pn (pn (pn (pn (sj, ej)).2).2).2 = y4 at *
        generalize pn (pn (pn (sj, ej)).2).2 = y3 at *
        generalize pn (pn (sj, ej)).2 = y2 at *
        generalize pn (sj, ej) = y1 at *
        obtain ⟨m1, u1, f1⟩ := y1
        obtain ⟨m2, u2, f2⟩ := y2
        obtain ⟨m3, u3, f3⟩ := y3
        obtain ⟨m4, u4, f4⟩ := y4
        obtain ⟨m5, u5, f5⟩ := y5
        simp only at M1 M2 M3 M4 M5 HR z1 z2 z3 z4 z5
        have hu5 : u5.size ≤ s4.size := by omega
        clear z0 z1 z2 z3 z4 z5
        have P1 := Lib.hid (fun W => lim_any m1 549755813888 (by omega) W)
        have P2 := Lib.hid (fun W => lim_any m2 9223372036854775807 (by omega) W)
        have P3 := Lib.hid (fun W => lim_any m3 63 (by omega) W)
        have hb0 : limN m1 549755813888 ≤ 549755813888 ∧ -1 ≤ limN m1 549755813888 := by unfold limN; split <;> omega
        generalize limN m1 549755813888 = p0 at *
        generalize limN m2 9223372036854775807 = p1 at *
        generalize limN m3 63 = p2 at *
        have FA := Lib.hid (fun (h : dRun (sj, ej) = none) => show dRead s = none from by unfold dRead; rw [HA.out, dRuns_fail HDR.out h n4 hjn]; rfl)
        have tb0 : wr.cell? ⟨T, 0, none⟩ = some (.string sj) := HD.out.b.cell 0
        have tb1 : wr.cell? ⟨T, 1, none⟩ = some (.int .i64 ej) := HD.out.b.cell 1
        clear HA
        go_wp2_with fail
        clear hcv hcv2 l1 hmI
        refine (M1.out _).mono ?_
        rintro e v1 ⟨rfl, b1⟩
        have D1 := Lib.hid (HD.out.below b1)
        have E1 := Lib.hid (D1.out.below ((Below.refl v1.heap.size v1).alloc (Nat.le_refl _) (.cells #[.string u1, .int .i64 f1] 60)))
        clear b1 tb0 tb1
        have cc0 : (v1.alloc (.cells #[.string u1, .int .i64 f1] 60)).cell? ⟨v1.heap.size, 0, none⟩ = some (.string u1) := (Blk.new v1 60 #[.string u1, .int .i64 f1]).cell 0
        have cc1 : (v1.alloc (.cells #[.string u1, .int .i64 f1] 60)).cell? ⟨v1.heap.size, 1, none⟩ = some (.int .i64 f1) := (Blk.new v1 60 #[.string u1, .int .i64 f1]).cell 1
        go_wp2_with fail
        refine (M2.out _).mono ?_
        rintro e v2 ⟨rfl, b2⟩
        have D2 := Lib.hid (E1.out.below b2)
        have E2 := Lib.hid (D2.out.below ((Below.refl v2.heap.size v2).alloc (Nat.le_refl _) (.cells #[.string u2, .int .i64 f2] 60)))
        clear b2 cc0 cc1
        have cc0 : (v2.alloc (.cells #[.string u2, .int .i64 f2] 60)).cell? ⟨v2.heap.size, 0, none⟩ = some (.string u2) := (Blk.new v2 60 #[.string u2, .int .i64 f2]).cell 0
        have cc1 : (v2.alloc (.cells #[.string u2, .int .i64 f2] 60)).cell? ⟨v2.heap.size, 1, none⟩ = some (.int .i64 f2) := (Blk.new v2 60 #[.string u2, .int .i64 f2]).cell 1
        go_wp2_with fail
        refine (M3.out _).mono ?_
        rintro e v3 ⟨rfl, b3⟩
        have D3 := Lib.hid (E2.out.below b3)
        have E3 := Lib.hid (D3.out.below ((Below.refl v3.heap.size v3).alloc (Nat.le_refl _) (.cells #[.string u3, .int .i64 f3] 60)))
        clear b3 cc0 cc1
        have cc0 : (v3.alloc (.cells #[.string u3, .int .i64 f3] 60)).cell? ⟨v3.heap.size, 0, none⟩ = some (.string u3) := (Blk.new v3 60 #[.string u3, .int .i64 f3]).cell 0
        have cc1 : (v3.alloc (.cells #[.string u3, .int .i64 f3] 60)).cell? ⟨v3.heap.size, 1, none⟩ = some (.int .i64 f3) := (Blk.new v3 60 #[.string u3, .int .i64 f3]).cell 1
        go_wp2_with fail
        refine (M4.out _).mono ?_
        rintro e v4 ⟨rfl, b4⟩
        have D4 := Lib.hid (E3.out.below b4)
        have E4 := Lib.hid (D4.out.below ((Below.refl v4.heap.size v4).alloc (Nat.le_refl _) (.cells #[.string u4, .int .i64 f4] 60)))
        clear b4 cc0 cc1
        have cc0 : (v4.alloc (.cells #[.string u4, .int .i64 f4] 60)).cell? ⟨v4.heap.size, 0, none⟩ = some (.string u4) := (Blk.new v4 60 #[.string u4, .int .i64 f4]).cell 0
        have cc1 : (v4.alloc (.cells #[.string u4, .int .i64 f4] 60)).cell? ⟨v4.heap.size, 1, none⟩ = some (.int .i64 f4) := (Blk.new v4 60 #[.string u4, .int .i64 f4]).cell 1
        go_wp2_with fail
        refine (M5.out _).mono ?_
        rintro e v5 ⟨rfl, b5⟩
        have D5 := Lib.hid (E4.out.below b5)
        have E5 := Lib.hid (D5.out.below ((Below.refl v5.heap.size v5).alloc (Nat.le_refl _) (.cells #[.string u5, .int .i64 f5] 60)))
        clear b5 cc0 cc1
        have cc0 : (v5.alloc (.cells #[.string u5, .int .i64 f5] 60)).cell? ⟨v5.heap.size, 0, none⟩ = some (.string u5) := (Blk.new v5 60 #[.string u5, .int .i64 f5]).cell 0
        have cc1 : (v5.alloc (.cells #[.string u5, .int .i64 f5] 60)).cell? ⟨v5.heap.size, 1, none⟩ = some (.int .i64 f5) := (Blk.new v5 60 #[.string u5, .int .i64 f5]).cell 1
        have tb0 : (v5.alloc (.cells #[.string u5, .int .i64 f5] 60)).cell? ⟨T, 0, none⟩ = some (.string sj) := E5.out.b.cell 0
        have tb1 : (v5.alloc (.cells #[.string u5, .int .i64 f5] 60)).cell? ⟨T, 1, none⟩ = some (.int .i64 ej) := E5.out.b.cell 1
        have tf0 := E5.out.b.free 0
        have tf1 := E5.out.b.free 1
        have D6 := Lib.hid (E5.out.tape u5 f5)
        clear D1 D2 D3 D4 D5 E1 E2 E3 E4 E5 HD M1 M2 M3 M4 M5
        go_upto_region 18 with fail
        clear cc0 cc1 tb0 tb1 tf0 tf1
        generalize ((v5.alloc (.cells #[.string u5, .int .i64 f5] 60)).setCell ⟨T, 0, none⟩ (.string u5)).setCell ⟨T, 1, none⟩ (.int .i64 f5) = W6 at *
        by_cases h1 : m5 < 1
        · have h1I : (m5 : Int) < 1 := by omega
          rw [if_pos (.inl h1)] at HR
          have EN := Lib.hid (rd_none (s := s) (by rw [← read_one]; exact FA.out HR.out))
          have n0 : W6.cell? ⟨N, 0, none⟩ = some (.int .i64 0) := D6.out.n.cell 0
          have n1 : W6.cell? ⟨N, 1, none⟩ = some (.int .i64 0) := D6.out.n.cell 1
          have n2 : W6.cell? ⟨N, 2, none⟩ = some (.int .i64 0) := D6.out.n.cell 2
          have n3 : W6.cell? ⟨N, 3, none⟩ = some (.slice none 0 0) := D6.out.n.cell 3
          have r0 : W6.cell? ⟨Y, 0, none⟩ = some (.int .i64 0) := D6.out.y.cell 0
          have r1 : W6.cell? ⟨Y, 1, none⟩ = some (.int .i64 0) := D6.out.y.cell 1
          have r2 : W6.cell? ⟨Y, 2, none⟩ = some (.int .i64 0) := D6.out.y.cell 2
          have r3 : W6.cell? ⟨Y, 3, none⟩ = some (.slice none 0 0) := D6.out.y.cell 3
          have rf0 := D6.out.y.free 0
          have rf1 := D6.out.y.free 1
          have rf2 := D6.out.y.free 2
          have rf3 := D6.out.y.free 3
          go_wp2_with fail
          have E9 := Lib.hid (D6.out.end (.int .i64 0) (.int .i64 0) (.int .i64 0) (.slice none 0 0))
          clear n0 n1 n2 n3 r0 r1 r2 r3 rf0 rf1 rf2 rf3
          generalize (((W6.setCell ⟨Y, 0, none⟩ (.int .i64 0)).setCell ⟨Y, 1, none⟩ (.int .i64 0)).setCell ⟨Y, 2, none⟩ (.int .i64 0)).setCell ⟨Y, 3, none⟩ (.slice none 0 0) = wE at *
          have q0 : wE.cell? ⟨Y, 0, none⟩ = some (.int .i64 0) := E9.out.1.cell 0
          have q1 : wE.cell? ⟨Y, 1, none⟩ = some (.int .i64 0) := E9.out.1.cell 1
          have q2 : wE.cell? ⟨Y, 2, none⟩ = some (.int .i64 0) := E9.out.1.cell 2
          have q3 : wE.cell? ⟨Y, 3, none⟩ = some (.slice none 0 0) := E9.out.1.cell 3
          refine bodyPost_ret (by simp [results, Try.results12, go_sem, q0, q1, q2, q3]; try rfl) rfl ?_
          exact ⟨none, 0, by rw [EN.out.1, EN.out.2]; rfl, by rw [EN.out.1]; exact fun p hp => absurd hp (Nat.not_lt_zero p), E9.out.2.1⟩
        have h1I : ¬ (m5 : Int) < 1 := by omega
        by_cases h15 : 15 < m5
        · have h15I : (15 : Int) < (m5 : Int) := by omega
          rw [if_pos (.inr h15)] at HR
          have EN := Lib.hid (rd_none (s := s) (by rw [← read_one]; exact FA.out HR.out))
          have n0 : W6.cell? ⟨N, 0, none⟩ = some (.int .i64 0) := D6.out.n.cell 0
          have n1 : W6.cell? ⟨N, 1, none⟩ = some (.int .i64 0) := D6.out.n.cell 1
          have n2 : W6.cell? ⟨N, 2, none⟩ = some (.int .i64 0) := D6.out.n.cell 2
          have n3 : W6.cell? ⟨N, 3, none⟩ = some (.slice none 0 0) := D6.out.n.cell 3
          have r0 : W6.cell? ⟨Y, 0, none⟩ = some (.int .i64 0) := D6.out.y.cell 0
          have r1 : W6.cell? ⟨Y, 1, none⟩ = some (.int .i64 0) := D6.out.y.cell 1
          have r2 : W6.cell? ⟨Y, 2, none⟩ = some (.int .i64 0) := D6.out.y.cell 2
          have r3 : W6.cell? ⟨Y, 3, none⟩ = some (.slice none 0 0) := D6.out.y.cell 3
          have rf0 := D6.out.y.free 0
          have rf1 := D6.out.y.free 1
          have rf2 := D6.out.y.free 2
          have rf3 := D6.out.y.free 3
          go_wp2_with fail
          have E9 := Lib.hid (D6.out.end (.int .i64 0) (.int .i64 0) (.int .i64 0) (.slice none 0 0))
          clear n0 n1 n2 n3 r0 r1 r2 r3 rf0 rf1 rf2 rf3
          generalize (((W6.setCell ⟨Y, 0, none⟩ (.int .i64 0)).setCell ⟨Y, 1, none⟩ (.int .i64 0)).setCell ⟨Y, 2, none⟩ (.int .i64 0)).setCell ⟨Y, 3, none⟩ (.slice none 0 0) = wE at *
          have q0 : wE.cell? ⟨Y, 0, none⟩ = some (.int .i64 0) := E9.out.1.cell 0
          have q1 : wE.cell? ⟨Y, 1, none⟩ = some (.int .i64 0) := E9.out.1.cell 1
          have q2 : wE.cell? ⟨Y, 2, none⟩ = some (.int .i64 0) := E9.out.1.cell 2
          have q3 : wE.cell? ⟨Y, 3, none⟩ = some (.slice none 0 0) := E9.out.1.cell 3
          refine bodyPost_ret (by simp [results, Try.results12, go_sem, q0, q1, q2, q3]; try rfl) rfl ?_
          exact ⟨none, 0, by rw [EN.out.1, EN.out.2]; rfl, by rw [EN.out.1]; exact fun p hp => absurd hp (Nat.not_lt_zero p), E9.out.2.1⟩
        have h15I : ¬ (15 : Int) < (m5 : Int) := by omega
        rw [if_neg (by omega)] at HR
        have hw5 : IntKind.i64.wrap (m5 : Int) = (m5 : Int) := IntWalk.i64_in _ (by omega)
        have hw5' : wrap64 (m5 : Int) = (m5 : Int) := IntWalk.wrap64_in _ (by omega)
        go_wp2_with fail
        refine (P1.out _).mono ?_
        rintro e _ ⟨rfl, rfl⟩
        go_wp2_with fail
        refine (P2.out _).mono ?_
        rintro e _ ⟨rfl, rfl⟩
        go_wp2_with fail
        refine (P3.out _).mono ?_
        rintro e _ ⟨rfl, rfl⟩
        have KR := Lib.hid (Blk.new W6 51 #[.int .i64 p0, .int .i64 p1, .int .i64 p2, .int .u64 (m4 : Int), .slice none 0 0])
        have D7 := Lib.hid (D6.out.below ((Below.refl W6.heap.size W6).alloc (Nat.le_refl _) (.cells #[.int .i64 p0, .int .i64 p1, .int .i64 p2, .int .u64 (m4 : Int), .slice none 0 0] 51)))
        have hne := Lib.hid D6.out.ne
        have hBR := D6.out.h5
        have hz7 : (W6.alloc (.cells #[.int .i64 p0, .int .i64 p1, .int .i64 p2, .int .u64 (m4 : Int), .slice none 0 0] 51)).heap.size = W6.heap.size + 1 := by simp
        have rr0 : (W6.alloc (.cells #[.int .i64 p0, .int .i64 p1, .int .i64 p2, .int .u64 (m4 : Int), .slice none 0 0] 51)).cell? ⟨W6.heap.size, 0, none⟩ = some (.int .i64 p0) := KR.out.cell 0
        go_upto_region 22 with fail
        clear rr0
        generalize W6.alloc (.cells #[.int .i64 p0, .int .i64 p1, .int .i64 p2, .int .u64 (m4 : Int), .slice none 0 0] 51) = W7 at *
        generalize W6.heap.size = R at *
        have KL := Blk.new W7 3 #[.int .i64 p0]
        have OL : Hid (OwnI (W7.alloc (.cells #[.int .i64 p0] 3)) (R + 1) (.slice (some ⟨W7.heap.size, 0, none⟩) 1 1) [p0]) := Lib.hid ⟨rfl, .inr ⟨W7.heap.size, 1, #[.int .i64 p0], rfl, by rw [hz7]; exact Nat.le_refl _, KL, Nat.le_refl _, by unfold maxLen; omega, rfl, rfl⟩⟩
        have FL : Hid (Fr W7 (W7.alloc (.cells #[.int .i64 p0] 3)) (fun q => q = T)) := Lib.hid ((Fr.refl W7 _).al _)
        have BL : Hid (Blk (W7.alloc (.cells #[.int .i64 p0] 3)) T 60 #[.string u5, .int .i64 f5]) := Lib.hid (Blk.al D7.out.b _)
        have ZL : R + 1 ≤ (W7.alloc (.cells #[.int .i64 p0] 3)).heap.size := by rw [size_al]; omega
        have hTR : T < R := by have := D7.out.h3; have := D7.out.h4; omega
        clear KL
        have HZ7 := Lib.hid hz7
        clear hz7
        go_wp2_with fail
        generalize W7.alloc (.cells #[.int .i64 p0] 3) = W8 at *
        go_loopw [26, 27, 28] (fun p l i wq => ∃ (k : Nat) (I : List Int × Int × Tp), i = .int .i64 (k : Int) ∧ 1 ≤ k ∧ k ≤ m5 ∧ dIter (k - 1) p0 (u5, f5) = some I ∧ p = .int .i64 I.2.1 ∧ OwnI wq (R + 1) l (p0 :: I.1) ∧ I.2.2.1.size ≤ s4.size ∧ Fr W7 wq (fun q => q = T) ∧ Blk wq T 60 #[.string I.2.2.1, .int .i64 I.2.2.2] ∧ R + 1 ≤ wq.heap.size) (fun _ _ i _ => m5 - (intOf i).toNat)
        case atStart => exact ⟨1, ([], p0, (u5, f5)), rfl, Nat.le_refl _, by omega, rfl, rfl, OL.out, hu5, FL.out, BL.out, ZL⟩
        case round =>
          obtain ⟨k, ⟨IL, pk, st, et⟩, rfl, hk1, hk5, hdi, rfl, hol, hst, hfr, hbt, hsz2⟩ := hrel
          simp only at hdi hol hst hbt
          have HDI := Lib.hid hdi
          have HOL := Lib.hid hol
          have HFR := Lib.hid hfr
          have HBT := Lib.hid hbt
          have hil0 := (dIter_last _ _ _ _ hdi)
          have hil := And.intro hil0.1 (And.intro hil0.2.1 hil0.2.2.1)
          clear hil0
          clear hdi hol hfr hbt OL FL BL ZL
          by_cases hkn : k < m5
          · have li : (k : Int) < (m5 : Int) := by omega
            have KN := Lib.hid (fun W => rn_any (st, et) (Nat.le_trans hst hs4) W)
            have zk := pn_le (st, et)
            have HST : Hid (dStep (IL, pk, (st, et)) = if 549755813888 < (pn (st, et)).1 then none else some (IL ++ [pk + (pn (st, et)).1 + 1], pk + (pn (st, et)).1 + 1, (pn (st, et)).2)) := rfl
            generalize pn (st, et) = yk at *
            obtain ⟨mk, sk, ek⟩ := yk
            simp only at KN zk HST hil
            have tb0 : wr.cell? ⟨T, 0, none⟩ = some (.string st) := HBT.out.cell 0
            have tb1 : wr.cell? ⟨T, 1, none⟩ = some (.int .i64 et) := HBT.out.cell 1
            go_wp2_with fail
            refine (KN.out _).mono ?_
            rintro e x1 ⟨rfl, b1⟩
            have b2 := (Below.refl x1.heap.size x1).alloc (Nat.le_refl _) (.cells #[.string sk, .int .i64 ek] 60)
            have F2 := Lib.hid (((HFR.out.over (b1.mono HFR.out.size)).over (b2.mono (Nat.le_trans HFR.out.size b1.size))))
            have T2 := Lib.hid ((HBT.out.over b1).over b2)
            have O2 := Lib.hid ((HOL.out.below b1).below b2)
            have zz2 : R + 1 ≤ (x1.alloc (.cells #[.string sk, .int .i64 ek] 60)).heap.size := Nat.le_trans (Nat.le_trans hsz2 b1.size) b2.size
            clear b1 b2 tb0 tb1 HFR HBT HOL
            have cc0 : (x1.alloc (.cells #[.string sk, .int .i64 ek] 60)).cell? ⟨x1.heap.size, 0, none⟩ = some (.string sk) := (Blk.new x1 60 #[.string sk, .int .i64 ek]).cell 0
            have cc1 : (x1.alloc (.cells #[.string sk, .int .i64 ek] 60)).cell? ⟨x1.heap.size, 1, none⟩ = some (.int .i64 ek) := (Blk.new x1 60 #[.string sk, .int .i64 ek]).cell 1
            have tb0 : (x1.alloc (.cells #[.string sk, .int .i64 ek] 60)).cell? ⟨T, 0, none⟩ = some (.string st) := T2.out.cell 0
            have tb1 : (x1.alloc (.cells #[.string sk, .int .i64 ek] 60)).cell? ⟨T, 1, none⟩ = some (.int .i64 et) := T2.out.cell 1
            have tf0 := T2.out.free 0
            have tf1 := T2.out.free 1
            have T3 : Hid (Blk (((x1.alloc (.cells #[.string sk, .int .i64 ek] 60)).setCell ⟨T, 0, none⟩ (.string sk)).setCell ⟨T, 1, none⟩ (.int .i64 ek)) T 60 #[.string sk, .int .i64 ek]) := Lib.hid ((T2.out.set 0 _).set 1 _)
            have F3 := Lib.hid ((F2.out.set T 0 (.string sk) (.inl rfl)).set T 1 (.int .i64 ek) (.inl rfl))
            have O3 := Lib.hid ((O2.out.fr (fr_set _ T 0 (.string sk)) (fun q e => by omega)).fr (fr_set _ T 1 (.int .i64 ek)) (fun q e => by omega))
            have zz3 : R + 1 ≤ (((x1.alloc (.cells #[.string sk, .int .i64 ek] 60)).setCell ⟨T, 0, none⟩ (.string sk)).setCell ⟨T, 1, none⟩ (.int .i64 ek)).heap.size := by rw [World.size_setCell, World.size_setCell]; exact zz2
            go_upto_region 28 with fail
            clear cc0 cc1 tb0 tb1 tf0 tf1 T2 F2 O2 zz2
            generalize ((x1.alloc (.cells #[.string sk, .int .i64 ek] 60)).setCell ⟨T, 0, none⟩ (.string sk)).setCell ⟨T, 1, none⟩ (.int .i64 ek) = x3 at *
            by_cases hmk : 549755813888 < mk
            · have hmI : (549755813888 : Int) < (mk : Int) := by omega
              rw [if_pos hmk] at HST
              have HRn : Hid (dRun (sj, ej) = none) := Lib.hid (by rw [HR.out, dIter_fail HDI.out HST.out (m5 - 1) (by omega)]; rfl)
              have D9 := Lib.hid (D7.out.frT (t' := (sk, ek)) F3.out T3.out)
              have EN := Lib.hid (rd_none (s := s) (by rw [← read_one]; exact FA.out HRn.out))
              have n0 : x3.cell? ⟨N, 0, none⟩ = some (.int .i64 0) := D9.out.n.cell 0
              have n1 : x3.cell? ⟨N, 1, none⟩ = some (.int .i64 0) := D9.out.n.cell 1
              have n2 : x3.cell? ⟨N, 2, none⟩ = some (.int .i64 0) := D9.out.n.cell 2
              have n3 : x3.cell? ⟨N, 3, none⟩ = some (.slice none 0 0) := D9.out.n.cell 3
              have r0 : x3.cell? ⟨Y, 0, none⟩ = some (.int .i64 0) := D9.out.y.cell 0
              have r1 : x3.cell? ⟨Y, 1, none⟩ = some (.int .i64 0) := D9.out.y.cell 1
              have r2 : x3.cell? ⟨Y, 2, none⟩ = some (.int .i64 0) := D9.out.y.cell 2
              have r3 : x3.cell? ⟨Y, 3, none⟩ = some (.slice none 0 0) := D9.out.y.cell 3
              have rf0 := D9.out.y.free 0
              have rf1 := D9.out.y.free 1
              have rf2 := D9.out.y.free 2
              have rf3 := D9.out.y.free 3
              go_wp2_with fail
              have E9 := Lib.hid (D9.out.end (.int .i64 0) (.int .i64 0) (.int .i64 0) (.slice none 0 0))
              clear n0 n1 n2 n3 r0 r1 r2 r3 rf0 rf1 rf2 rf3
              generalize (((x3.setCell ⟨Y, 0, none⟩ (.int .i64 0)).setCell ⟨Y, 1, none⟩ (.int .i64 0)).setCell ⟨Y, 2, none⟩ (.int .i64 0)).setCell ⟨Y, 3, none⟩ (.slice none 0 0) = wE at *
              have q0 : wE.cell? ⟨Y, 0, none⟩ = some (.int .i64 0) := E9.out.1.cell 0
              have q1 : wE.cell? ⟨Y, 1, none⟩ = some (.int .i64 0) := E9.out.1.cell 1
              have q2 : wE.cell? ⟨Y, 2, none⟩ = some (.int .i64 0) := E9.out.1.cell 2
              have q3 : wE.cell? ⟨Y, 3, none⟩ = some (.slice none 0 0) := E9.out.1.cell 3
              refine bodyPost_ret (by simp [results, Try.results12, go_sem, q0, q1, q2, q3]; try rfl) rfl ?_
              exact ⟨none, 0, by rw [EN.out.1, EN.out.2]; rfl, by rw [EN.out.1]; exact fun p hp => absurd hp (Nat.not_lt_zero p), E9.out.2.1⟩
            · have hmI : ¬ (549755813888 : Int) < (mk : Int) := by omega
              rw [if_neg hmk] at HST
              have HDK : Hid (dIter k p0 (u5, f5) = some (IL ++ [pk + (mk : Int) + 1], pk + (mk : Int) + 1, (sk, ek))) := Lib.hid (by
                rw [show k = k - 1 + 1 by omega, dIter, HDI.out]
                exact HST.out)
              obtain ⟨w1, w1', w2, w2', w3, w3'⟩ := wraps hk1 hkn h15 hb0.1 hb0.2 hil.1 hil.2.1 hmk
              have hlen : ((p0 :: IL).length + 1) * 8 ≤ 140737488355328 := by rw [List.length_cons, hil.2.2]; omega
              obtain ⟨la, lc, hla, _, _⟩ := O3.out.ints
              subst hla
              go_wp2_with (at_builtin; refine append_int _ rfl _ _ rfl (R + 1) _ _ rfl O3.out _ rfl hlen zz3 ?_; intro v9 x9 o9 b9)
              have Z9 := Lib.hid (Nat.le_trans zz3 b9.size)
              have F9 := Lib.hid (F3.out.over (by rw [HZ7.out]; exact b9))
              have T9 := Lib.hid (T3.out.below b9 (by omega))
              have O9 := Lib.hid o9
              clear b9 o9 F3 T3 O3 zz3
              go_roundw
              case rel => exact ⟨k + 1, (IL ++ [pk + (mk : Int) + 1], pk + (mk : Int) + 1, (sk, ek)), by go_num, by omega, by omega, by rw [Nat.add_sub_cancel]; exact HDK.out, rfl, O9.out, Nat.le_trans zk hst, F9.out, T9.out, Z9.out⟩
              case measure => simp [intOf]; omega
          · have li : ¬ (k : Int) < (m5 : Int) := by omega
            obtain rfl : k = m5 := by omega
            have KR8 := Lib.hid (KR.out.fr HFR.out (by omega))
            have D8 := Lib.hid (D7.out.frT (t' := (st, et)) HFR.out HBT.out)
            have HRs : Hid (dRun (sj, ej) = some (⟨p0, p1, p2, (m4 : Int), p0 :: IL⟩, (st, et))) := Lib.hid (by rw [HR.out, HDI.out]; rfl)
            have HDN : Hid (dRuns (j + 1) (s4, e4) = some (LJ ++ [⟨p0, p1, p2, (m4 : Int), p0 :: IL⟩], (st, et))) := Lib.hid (by
              rw [dRuns, HDR.out]
              show (dRun (sj, ej)).map _ = _
              rw [HRs.out]; rfl)
            have hml : M.length ≤ 64 := by
              have h1 := congrArg List.length HMR.out
              rw [List.length_map, dRuns_len _ _ _ HDR.out] at h1
              omega
            generalize p0 :: IL = P at *
            obtain ⟨la, lc, hla, hli, hll⟩ := HOL.out.intsB
            subst hla
            have IN9 : Hid (IntsB (wr.setCell ⟨R, 4, none⟩ (.slice la P.length lc)) B la P) := Lib.hid ((hli.keep (fun g cur hg hh => (fr_set wr R 4 (.slice la P.length lc)).block g (Array.getElem?_eq_some_iff.1 hh).1 (by omega))).low (by omega))
            have LL := Lib.hid hll
            have D9 := Lib.hid (D8.out.off KR8.out hne.out (by decide) hBR 4 (.slice la P.length lc))
            have KR9 := Lib.hid (KR8.out.set 4 (.slice la P.length lc))
            have rr4 : wr.cell? ⟨R, 4, none⟩ = some (.slice none 0 0) := KR8.out.cell 4
            have rf4 := KR8.out.free 4
            clear hli hll HOL HFR HBT KR8 D8 HR HRs HDI hil D7 D6 KR P1 P2 P3
            go_upto_region 33 with fail
            clear rr4 rf4
            generalize wr.setCell ⟨R, 4, none⟩ (.slice la P.length lc) = x9 at *
            have rr0 : x9.cell? ⟨R, 0, none⟩ = some (.int .i64 p0) := KR9.out.cell 0
            have rr1 : x9.cell? ⟨R, 1, none⟩ = some (.int .i64 p1) := KR9.out.cell 1
            have rr2 : x9.cell? ⟨R, 2, none⟩ = some (.int .i64 p2) := KR9.out.cell 2
            have rr3 : x9.cell? ⟨R, 3, none⟩ = some (.int .u64 (m4 : Int)) := KR9.out.cell 3
            have rr4 : x9.cell? ⟨R, 4, none⟩ = some (.slice la P.length lc) := KR9.out.cell 4
            have xx3 : x9.cell? ⟨X, 3, none⟩ = some (.slice va M.length vc) := D9.out.x.cell 3
            have hz9 := Lib.hid D9.out.h5
            obtain ⟨i51, hi51, hz51, hz51b, hz51c⟩ := info_parts info51
            go_wp2_with (at_builtin; refine wpList_append_own _ rfl (.tmp 141) (.tmp 143) 32 rfl B 51 i51 (.agg #[.int .i64 0, .int .i64 0, .int .i64 0, .int .u64 0, .slice none 0 0]) 5 56 Try.underlying32 hi51 hz51 hz51b hz51c rfl (by decide) (.slice va M.length vc) M.length _ rfl (World.ownsRow.alloc D9.out.own _) ⟨x9.heap.size, 0, none⟩ 1 1 [.int .i64 p0, .int .i64 p1, .int .i64 p2, .int .u64 (m4 : Int), .slice la P.length lc] rfl rfl (World.news_of_block (cs := #[.int .i64 p0, .int .i64 p1, .int .i64 p2, .int .u64 (m4 : Int), .slice la P.length lc]) (heap_alloc_new x9 _)) (one_run p0 p1 p2 m4 la P.length lc) (by unfold maxLen; omega) (by omega) (by rw [size_al]; exact Nat.le_succ_of_le hz9.out) ?_; intro v10 x10 ho10 hg10 _; obtain ⟨va2, vc2, hv10⟩ := rc_form ho10; subst hv10; have P10 := Lib.hid (D9.out.push p0 p1 p2 (m4 : Int) la P lc IN9.out LL.out ho10 hg10); have xc3 : x10.cell? ⟨X, 3, none⟩ = some (.slice va M.length vc) := P10.out.1.cell 3; have xf3 : x10.frozen? ⟨X, 3, none⟩ = false := P10.out.1.free 3; clear ho10 hg10)
            have P11 := Lib.hid P10.out.2
            clear P10 xc3 xf3
            go_roundw
            case rel => exact ⟨j + 1, (LJ ++ [⟨p0, p1, p2, (m4 : Int), P⟩], (st, et)), M ++ [⟨⟨p0, p1, p2, (m4 : Int), P⟩, la, lc⟩], _, by go_num, by omega, HDN.out, by rw [List.map_append, HMR.out]; rfl, hst, P11.out⟩
            case measure => simp [intOf]; omega
      · have l1 : ¬ (j : Int) < (n4 : Int) := by omega
        obtain rfl : j = n4 := by omega
        obtain ⟨sj, ej⟩ := tj
        have HPL := Lib.hid (dRuns_P _ _ _ HDR.out)
        have HRD : Hid (dRead s = if (Bt.endE sj ej == 0 && keepB k1 k2 k3 (M.map RC.r)) = true then some (k1, k2, k3, M.map RC.r) else none) := Lib.hid (by unfold dRead; rw [HA.out, HDR.out, HMR.out]; rfl)
        have EE := Lib.hid (rend_any sj ej wr)
        simp only at HPL HD
        rw [← HMR.out] at HPL
        have TM := Lib.hid (fun W (h : Rns W va (M.map RC.r)) => show Calls Try.prog 17 #[trackV k1 k2 k3 (.slice va M.length vc)] W _ from by
          have h := rmay_any k1 k2 k3 (M.map RC.r) va vc W h HPL.out
          rw [List.length_map] at h
          exact h)
        unfold trackV at TM
        have tb0 : wr.cell? ⟨T, 0, none⟩ = some (.string sj) := HD.out.b.cell 0
        have tb1 : wr.cell? ⟨T, 1, none⟩ = some (.int .i64 ej) := HD.out.b.cell 1
        clear HDR HPL HA
        generalize Bt.endE sj ej = ee at *
        by_cases hee : ee = 0
        · have heb : (ee != 0) = false := by rw [hee]; rfl
          have heb2 : (ee == 0) = true := by rw [hee]; rfl
          rw [heb2, Bool.true_and] at HRD
          subst hee
          generalize hkb : keepB k1 k2 k3 (M.map RC.r) = kb at *
          go_wp2_with fail
          refine EE.out.mono ?_
          rintro e w5 ⟨rfl, b5⟩
          have D5 := Lib.hid (HD.out.below b5)
          clear b5 tb0 tb1 EE HD
          have x0 : w5.cell? ⟨X, 0, none⟩ = some (.int .i64 k1) := D5.out.x.cell 0
          have x1 : w5.cell? ⟨X, 1, none⟩ = some (.int .i64 k2) := D5.out.x.cell 1
          have x2 : w5.cell? ⟨X, 2, none⟩ = some (.int .i64 k3) := D5.out.x.cell 2
          have x3 : w5.cell? ⟨X, 3, none⟩ = some (.slice va M.length vc) := D5.out.x.cell 3
          have TM5 := Lib.hid (TM.out w5 (D5.out.rns rfl))
          go_wp2_with fail
          refine TM5.out.mono ?_
          rintro e w6 ⟨rfl, b6⟩
          have D6 := Lib.hid (D5.out.below b6)
          clear b6 x0 x1 x2 x3 TM TM5 D5
          cases kb
          · simp only [Bool.false_eq_true, if_false] at HRD
            have EN := Lib.hid (rd_none (s := s) (by rw [← read_one]; exact HRD.out))
            have n0 : w6.cell? ⟨N, 0, none⟩ = some (.int .i64 0) := D6.out.n.cell 0
            have n1 : w6.cell? ⟨N, 1, none⟩ = some (.int .i64 0) := D6.out.n.cell 1
            have n2 : w6.cell? ⟨N, 2, none⟩ = some (.int .i64 0) := D6.out.n.cell 2
            have n3 : w6.cell? ⟨N, 3, none⟩ = some (.slice none 0 0) := D6.out.n.cell 3
            have r0 : w6.cell? ⟨Y, 0, none⟩ = some (.int .i64 0) := D6.out.y.cell 0
            have r1 : w6.cell? ⟨Y, 1, none⟩ = some (.int .i64 0) := D6.out.y.cell 1
            have r2 : w6.cell? ⟨Y, 2, none⟩ = some (.int .i64 0) := D6.out.y.cell 2
            have r3 : w6.cell? ⟨Y, 3, none⟩ = some (.slice none 0 0) := D6.out.y.cell 3
            have rf0 := D6.out.y.free 0
            have rf1 := D6.out.y.free 1
            have rf2 := D6.out.y.free 2
            have rf3 := D6.out.y.free 3
            go_wp2_with fail
            have E9 := Lib.hid (D6.out.end (.int .i64 0) (.int .i64 0) (.int .i64 0) (.slice none 0 0))
            clear n0 n1 n2 n3 r0 r1 r2 r3 rf0 rf1 rf2 rf3
            generalize (((w6.setCell ⟨Y, 0, none⟩ (.int .i64 0)).setCell ⟨Y, 1, none⟩ (.int .i64 0)).setCell ⟨Y, 2, none⟩ (.int .i64 0)).setCell ⟨Y, 3, none⟩ (.slice none 0 0) = wE at *
            have q0 : wE.cell? ⟨Y, 0, none⟩ = some (.int .i64 0) := E9.out.1.cell 0
            have q1 : wE.cell? ⟨Y, 1, none⟩ = some (.int .i64 0) := E9.out.1.cell 1
            have q2 : wE.cell? ⟨Y, 2, none⟩ = some (.int .i64 0) := E9.out.1.cell 2
            have q3 : wE.cell? ⟨Y, 3, none⟩ = some (.slice none 0 0) := E9.out.1.cell 3
            refine bodyPost_ret (by simp [results, Try.results12, go_sem, q0, q1, q2, q3]; try rfl) rfl ?_
            exact ⟨none, 0, by rw [EN.out.1, EN.out.2]; rfl, by rw [EN.out.1]; exact fun p hp => absurd hp (Nat.not_lt_zero p), E9.out.2.1⟩
          · simp only [if_true] at HRD
            have EN := Lib.hid (rd_some (s := s) _ (by rw [← read_one]; exact HRD.out))
            simp only at EN
            have x0 : w6.cell? ⟨X, 0, none⟩ = some (.int .i64 k1) := D6.out.x.cell 0
            have x1 : w6.cell? ⟨X, 1, none⟩ = some (.int .i64 k2) := D6.out.x.cell 1
            have x2 : w6.cell? ⟨X, 2, none⟩ = some (.int .i64 k3) := D6.out.x.cell 2
            have x3 : w6.cell? ⟨X, 3, none⟩ = some (.slice va M.length vc) := D6.out.x.cell 3
            have r0 : w6.cell? ⟨Y, 0, none⟩ = some (.int .i64 0) := D6.out.y.cell 0
            have r1 : w6.cell? ⟨Y, 1, none⟩ = some (.int .i64 0) := D6.out.y.cell 1
            have r2 : w6.cell? ⟨Y, 2, none⟩ = some (.int .i64 0) := D6.out.y.cell 2
            have r3 : w6.cell? ⟨Y, 3, none⟩ = some (.slice none 0 0) := D6.out.y.cell 3
            have rf0 := D6.out.y.free 0
            have rf1 := D6.out.y.free 1
            have rf2 := D6.out.y.free 2
            have rf3 := D6.out.y.free 3
            go_wp2_with fail
            have E9 := Lib.hid (D6.out.end (.int .i64 k1) (.int .i64 k2) (.int .i64 k3) (.slice va M.length vc))
            clear x0 x1 x2 x3 r0 r1 r2 r3 rf0 rf1 rf2 rf3
            generalize (((w6.setCell ⟨Y, 0, none⟩ (.int .i64 k1)).setCell ⟨Y, 1, none⟩ (.int .i64 k2)).setCell ⟨Y, 2, none⟩ (.int .i64 k3)).setCell ⟨Y, 3, none⟩ (.slice va M.length vc) = wE at *
            have q0 : wE.cell? ⟨Y, 0, none⟩ = some (.int .i64 k1) := E9.out.1.cell 0
            have q1 : wE.cell? ⟨Y, 1, none⟩ = some (.int .i64 k2) := E9.out.1.cell 1
            have q2 : wE.cell? ⟨Y, 2, none⟩ = some (.int .i64 k3) := E9.out.1.cell 2
            have q3 : wE.cell? ⟨Y, 3, none⟩ = some (.slice va M.length vc) := E9.out.1.cell 3
            refine bodyPost_ret (by simp [results, Try.results12, go_sem, q0, q1, q2, q3]; try rfl) rfl ?_
            exact ⟨va, vc, by rw [EN.out.1, EN.out.2.1, List.length_map]; rfl, by rw [EN.out.1]; exact E9.out.2.2 rfl, E9.out.2.1⟩
        · have heb : (ee != 0) = true := by simpa using hee
          have heb2 : (ee == 0) = false := by simpa using hee
          rw [heb2, Bool.false_and] at HRD
          simp only [Bool.false_eq_true, if_false] at HRD
          go_wp2_with fail
          refine EE.out.mono ?_
          rintro e w6 ⟨rfl, b6⟩
          have D6 := Lib.hid (HD.out.below b6)
          clear b6 tb0 tb1 EE HD TM
          have EN := Lib.hid (rd_none (s := s) (by rw [← read_one]; exact HRD.out))
          have n0 : w6.cell? ⟨N, 0, none⟩ = some (.int .i64 0) := D6.out.n.cell 0
          have n1 : w6.cell? ⟨N, 1, none⟩ = some (.int .i64 0) := D6.out.n.cell 1
          have n2 : w6.cell? ⟨N, 2, none⟩ = some (.int .i64 0) := D6.out.n.cell 2
          have n3 : w6.cell? ⟨N, 3, none⟩ = some (.slice none 0 0) := D6.out.n.cell 3
          have r0 : w6.cell? ⟨Y, 0, none⟩ = some (.int .i64 0) := D6.out.y.cell 0
          have r1 : w6.cell? ⟨Y, 1, none⟩ = some (.int .i64 0) := D6.out.y.cell 1
          have r2 : w6.cell? ⟨Y, 2, none⟩ = some (.int .i64 0) := D6.out.y.cell 2
          have r3 : w6.cell? ⟨Y, 3, none⟩ = some (.slice none 0 0) := D6.out.y.cell 3
          have rf0 := D6.out.y.free 0
          have rf1 := D6.out.y.free 1
          have rf2 := D6.out.y.free 2
          have rf3 := D6.out.y.free 3
          go_wp2_with fail
          have E9 := Lib.hid (D6.out.end (.int .i64 0) (.int .i64 0) (.int .i64 0) (.slice none 0 0))
          clear n0 n1 n2 n3 r0 r1 r2 r3 rf0 rf1 rf2 rf3
          generalize (((w6.setCell ⟨Y, 0, none⟩ (.int .i64 0)).setCell ⟨Y, 1, none⟩ (.int .i64 0)).setCell ⟨Y, 2, none⟩ (.int .i64 0)).setCell ⟨Y, 3, none⟩ (.slice none 0 0) = wE at *
          have q0 : wE.cell? ⟨Y, 0, none⟩ = some (.int .i64 0) := E9.out.1.cell 0
          have q1 : wE.cell? ⟨Y, 1, none⟩ = some (.int .i64 0) := E9.out.1.cell 1
          have q2 : wE.cell? ⟨Y, 2, none⟩ = some (.int .i64 0) := E9.out.1.cell 2
          have q3 : wE.cell? ⟨Y, 3, none⟩ = some (.slice none 0 0) := E9.out.1.cell 3
          refine bodyPost_ret (by simp [results, Try.results12, go_sem, q0, q1, q2, q3]; try rfl) rfl ?_
          exact ⟨none, 0, by rw [EN.out.1, EN.out.2]; rfl, by rw [EN.out.1]; exact fun p hp => absurd hp (Nat.not_lt_zero p), E9.out.2.1⟩
end Go.Proofs.Ytifdljdnpdefgaa
