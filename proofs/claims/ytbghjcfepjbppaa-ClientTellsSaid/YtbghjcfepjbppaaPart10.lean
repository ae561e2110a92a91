/-
  WHAT THE ROWS REST ON, part 10: Ltw.
-/
import Derived.Test.YtbghjcfepjbppaaPart9
/-
  THE LAW OF ClientTells AS A WALK: a teller that may be.
-/
namespace Go.Proofs.Ytbghjcfepjbppaa
open Go.RowKit
set_option linter.unusedSimpArgs false in
set_option maxHeartbeats 8000000 in
set_option maxRecDepth 100000 in
theorem tells_yes (nodes : Int) (a : Option Addr) (c : Nat) (R : List AcT) (W : World) (h : manyB nodes = true) (hx : AcsT W a R) (hS : ∀ x ∈ R, x.sm) (hl : R.length ≤ 9223372036854775807) :
    Calls Try.prog 3 #[.int .i64 nodes, .slice a R.length c] W fun e w' => e = .returned (.bool true) ∧ Below W.heap.size W w' := by
  obtain ⟨t, ht⟩ : ∃ t, t = W.heap.size := ⟨_, rfl⟩
  have NR : Hid (Calls Try.prog 7 #[.int .i64 nodes] W fun e w' => e = .returned (.pointer (some ⟨t, 0, none⟩)) ∧ Blk w' t 98 (tel nodes 0 0 0 (.slice none 0 0) (.slice none 0 0)) ∧ Below W.heap.size W w') := Lib.hid (by rw [ht]; exact tel_new nodes h W)
  unfold manyB at h
  simp only [Bool.and_eq_true, decide_eq_true_eq] at h
  obtain ⟨h1, h2⟩ := h
  have ST := Lib.hid (fun (w1 : World) (t : Nat) ht T b => lk_start (W := W) (w1 := w1) (t := t) (nodes := nodes) ht T b)
  have FIN := Lib.hid (fun (w9 : World) (t bx j : Nat) (k : LK W t bx nodes j w9) => show Below W.heap.size W w9 from by
    obtain ⟨s, _, U, V, wa, wc, ra, rc, EW, ER, k⟩ := k
    exact k.b)
  have g1 : decide (nodes < 1) = false := decide_eq_false (by omega)
  have g2 : decide (7 < nodes) = false := decide_eq_false (by omega)
  obtain ⟨n, hn⟩ : ∃ n, n = R.length := ⟨_, rfl⟩
  have HN := Lib.hid hn
  have HX := Lib.hid hx
  have HS := Lib.hid hS
  rw [← hn] at hl ⊢
  have hlI : (n : Int) ≤ 9223372036854775807 := by omega
  clear hx hS hn
  go_enter Try.func3, Try.ntmps3
  go_wp2_with fail
  refine NR.out.mono ?_
  rintro e w1 ⟨rfl, T, b1⟩
  have S1 := Lib.hid (ST.out w1 t (Nat.le_of_eq ht.symm) T b1)
  clear T b1 ST NR ht
  go_wp2_with fail
  generalize hW2 : w1.alloc (.cells #[.int .i64 nodes, .int .i64 0, .int .i64 0, .int .i64 0, .slice none 0 0, .slice none 0 0] 28) = w2 at *
  clear hW2
  generalize w1.heap.size = bx at *
  refine (awake_any _).mono ?_
  rintro e w3 ⟨rfl, b3⟩
  have S3 := Lib.hid (S1.out.next b3)
  clear b3 S1
  go_wp2_with fail
  go_loopw [7] (fun i wr => ∃ (j : Nat), i = .int .i64 j ∧ j ≤ n ∧ j ≤ 300 ∧ Hid (LK W t bx nodes j wr)) (fun i wr => n - (intOf i).toNat)
  case atStart => exact ⟨0, rfl, Nat.zero_le _, Nat.zero_le _, S3⟩
  case round =>
    obtain ⟨j, rfl, hj, hj2, hR⟩ := hrel
    clear S3
    by_cases hjn : j < n
    · have jI : (j : Int) < (n : Int) := by omega
      have jB := decide_eq_true jI
      by_cases hjk : j < 300
      · have kI : (j : Int) < 300 := by omega
        have kB := decide_eq_true kI
        have hjL : j < R.length := by rw [← HN.out]; exact hjn
        obtain ⟨ga, oa, fq, fc, lq, lc, rfl, hga, hAt⟩ := HX.out j hjL
        have hsm := HS.out _ (List.getElem_mem hjL)
        obtain ⟨x, hx⟩ : ∃ x, x = R[j]'hjL := ⟨_, rfl⟩
        rw [← hx] at hAt hsm
        obtain ⟨⟨a0, a1, a2, a3, a4, a5, a6, a7, a8, a9, a10⟩, hF, hL, hok⟩ := hAt
        simp only [add_at, Nat.add_zero] at a0 a1 a2 a3 a4 a5 a6 a7 a8 a9 a10
        have bw := FIN.out _ _ _ _ hR.out
        have up : ∀ {i : Nat} {v : Value}, W.cell? ⟨ga, i, none⟩ = some v → wr.cell? ⟨ga, i, none⟩ = some v := fun {i v} hc => (bw.cell (p := ⟨ga, i, none⟩) hga).trans hc
        have c0 := up a0
        have c1 := up a1
        have c2 := up a2
        have c3 := up a3
        have c4 := up a4
        have c5 := up a5
        have c6 := up a6
        have c7 := up a7
        have c8 := up a8
        have c9 := up a9
        have c10 := up a10
        clear a0 a1 a2 a3 a4 a5 a6 a7 a8 a9 a10 up hx
        obtain ⟨hon, hrn, hlL, hlF, hek, hfl⟩ := hok
        have FO : Hid (FldOk x.F) := Lib.hid (fun f hf => ⟨(hfl f hf).1, by have := (hfl f hf).2.1; unfold maxLen at this; omega, by have := hsm.2 f hf; unfold reachBytes at this; omega⟩)
        have HF := Lib.hid hF
        have hek2 : Hid (x.ek.size ≤ 9223372036854775807) := Lib.hid (by unfold maxLen at hek; omega)
        clear bw hL hsm hF hon hrn hlL hlF hek hfl
        obtain ⟨xk, xa, xb, xc, xe, xF, xer, xrn, xle, xn, xL⟩ := x
        simp only at *
        generalize xL.length = mL at *
        obtain ⟨m, hm⟩ : ∃ m, m = xF.length := ⟨_, rfl⟩
        have HM := Lib.hid hm
        rw [← hm] at c5
        clear hm
        by_cases hm20 : m ≤ 20
        · have mI : (m : Int) ≤ 20 := by omega
          have mB : decide (20 < (m : Int)) = false := by simp; omega
          obtain ⟨s0, ok0, L0⟩ := hR.out
          have OK := Lib.hid ok0
          obtain ⟨X1, hX1, K1, B1, hs1⟩ : ∃ w1, w1 = wr.alloc (.cells #[.int .i64 xk, .int .i64 xa, .int .i64 xb, .int .i64 xc, .string xe, .slice fq m fc, .int .i64 xer, .int .i64 xrn, .int .i64 xle, .int .i64 xn, .slice lq mL lc] 37) ∧ Blk w1 wr.heap.size 37 #[.int .i64 xk, .int .i64 xa, .int .i64 xb, .int .i64 xc, .string xe, .slice fq m fc, .int .i64 xer, .int .i64 xrn, .int .i64 xle, .int .i64 xn, .slice lq mL lc] ∧ Below wr.heap.size wr w1 ∧ w1.heap.size = wr.heap.size + 1 := ⟨_, rfl, Blk.new _ _ _, (Below.refl _ _).alloc (Nat.le_refl _) _, by simp⟩
          have W1 := Lib.hid hX1
          have L1 := Lib.hid (L0.next B1)
          have KX := Lib.hid K1
          have LbX : bx < wr.heap.size := by obtain ⟨U, V, wa, wc, ra, rc, EW, ER, L⟩ := L0; exact L.bk.lt
          clear ok0 L0 hR hX1 B1
          go_upto_block 2 with fail
          rw [← W1.out]
          clear W1 c0 c1 c2 c3 c4 c5 c6 c7 c8 c9 c10
          generalize wr.heap.size = X at *
          go_cut [9, 10] from 53 to 99 (fun s9 s10 wx => ∃ (E : Int) (s' : TS), s9 = .int .i64 E ∧ s10 = .int .i64 E ∧ Hid (TS.Ok s' (j + 1)) ∧ Hid (LT W t bx nodes s' s' wx))
          case first =>
            by_cases k0 : xk = 0
            · subst k0
              obtain ⟨U, V, wa, wcp, ra, rcp, EW, ER, L⟩ := L1.out
              have Lh := Lib.hid L
              have hXb : X ≠ bx := by omega
              have BD : Below X1.heap.size X1 X1.drew := (Below.refl X1.heap.size X1).drew
              have RE := Lib.hid (ref_any xa xb xc xe fq fc xF X1.drew (by rw [← HM.out]; omega) ((HF.out.below L.b).below BD))
              have DAF := Lib.hid (fun (v2 : World) (b2 : Below X1.heap.size X1 v2) (pp : Option Addr) (cpp : Nat) (F7 : Flds v2 pp xF) (hp : ∀ ad, pp = some ad → X1.heap.size ≤ ad.block ∧ ad.block < v2.heap.size) =>
                ddadd (nodes := nodes) (V := fun q => V q ∨ (X1.heap.size ≤ q ∧ q < v2.heap.size)) ((L.dc.next b2).mono (fun _ h => .inl h)) xa xb xc xe pp cpp xF F7 (fun ad e => .inr (hp ad e)) (by rw [← HM.out]; exact hm20) hek2.out FO.out)
              have SRE := Lib.hid (fun (v2 v3 : World) (wa' : Option Addr) (wc' : Nat) (ra' : Option Addr) (rc' : Nat) (EW' ER' : List E6) (b2 : Below X1.heap.size X1 v2) (b3 : Below v2.heap.size v2 v3) D' =>
                Lh.out.stored (b2.trans (b3.mono b2.size)) (DcR.up (s' := s0.add xc xe xF) (wa' := wa') (wc' := wc') (ra' := ra') (rc' := rc') (EW' := EW') (ER' := ER') b2 b3 D'))
              have KB := Lib.hid L.bk
              have b0 : X1.cell? ⟨bx, 0, none⟩ = some (.int .i64 nodes) := L.bk.cell 0
              have b1 : X1.cell? ⟨bx, 1, none⟩ = some (.int .i64 s0.tn) := L.bk.cell 1
              have b2 : X1.cell? ⟨bx, 2, none⟩ = some (.int .i64 s0.id) := L.bk.cell 2
              have b3 : X1.cell? ⟨bx, 3, none⟩ = some (.int .i64 s0.sq) := L.bk.cell 3
              have b4 : X1.cell? ⟨bx, 4, none⟩ = some (.slice wa s0.W.length wcp) := L.bk.cell 4
              have b5 : X1.cell? ⟨bx, 5, none⟩ = some (.slice ra s0.R.length rcp) := L.bk.cell 5
              have k0 : X1.cell? ⟨X, 0, none⟩ = some (.int .i64 0) := KX.out.cell 0
              have k1 : X1.cell? ⟨X, 1, none⟩ = some (.int .i64 xa) := KX.out.cell 1
              have k2 : X1.cell? ⟨X, 2, none⟩ = some (.int .i64 xb) := KX.out.cell 2
              have k3 : X1.cell? ⟨X, 3, none⟩ = some (.int .i64 xc) := KX.out.cell 3
              have k4 : X1.cell? ⟨X, 4, none⟩ = some (.string xe) := KX.out.cell 4
              have k5 : X1.cell? ⟨X, 5, none⟩ = some (.slice fq m fc) := KX.out.cell 5
              have OK2 := Lib.hid (OK.out.add xc xe xF FO.out)
              have TPF := Lib.hid (fun (wx : World) (h : LT W t bx nodes s0 (s0.add xc xe xF) wx) => h.add OK.out.w xa xb xc xe fq fc xF HF.out (by rw [← HM.out]; exact hm20) hek2.out FO.out)
              rw [← HM.out] at RE DAF TPF
              unfold RefdN at RE
              rw [← HM.out] at RE
              unfold DcR dtel at DAF
              unfold evV at RE DAF TPF
              clear L BD
              generalize hs' : s0.add xc xe xF = s' at *
              generalize s0.addE xc xe xF = EE at *
              clear hs'
              go_upto_region 15 with fail
              go_cut [10] from 55 to 99 (fun s10 wx => s10 = .int .i64 EE ∧ Hid (LT W t bx nodes s0 s' wx) ∧ Hid (Blk wx X 37 #[.int .i64 0, .int .i64 xa, .int .i64 xb, .int .i64 xc, .string xe, .slice fq m fc, .int .i64 xer, .int .i64 xrn, .int .i64 xle, .int .i64 xn, .slice lq mL lc]))
              case first =>
                go_region_law
                  (first
                    | (go_simp; go_at_call 9; refine (DAF.out _ B7.out _ _ F7.out hp7.out).mono ?_; rintro r9 v3 ⟨v, rfl, wa', wc', ra', rc', EW', ER', rfl, D', b9⟩; obtain ⟨w4, hw4, L4, f4⟩ := SRE.out _ v3 wa' wc' ra' rc' EW' ER' B7.out b9 D'; have K4 := Lib.hid (((KX.out.below B7.out).below b9).fr f4 hXb); have KV := (KB.out.below B7.out).below b9; have f0 : v3.cell? ⟨bx, 0, none⟩ = some (.int .i64 nodes) := KV.cell 0; have f1 : v3.cell? ⟨bx, 1, none⟩ = some (.int .i64 s0.tn) := KV.cell 1; have f2 : v3.cell? ⟨bx, 2, none⟩ = some (.int .i64 s0.id) := KV.cell 2; have f3 : v3.cell? ⟨bx, 3, none⟩ = some (.int .i64 s0.sq) := KV.cell 3; have f4' : v3.cell? ⟨bx, 4, none⟩ = some (.slice wa s0.W.length wcp) := KV.cell 4; have f5 : v3.cell? ⟨bx, 5, none⟩ = some (.slice ra s0.R.length rcp) := KV.cell 5; have fz : ∀ i, v3.frozen? ⟨bx, i, none⟩ = false := KV.free; have W4 := Lib.hid hw4; have L4h := Lib.hid L4; clear hw4 L4 f4 KV D' b9)
                    | (go_simp; go_at_call 10; refine RE.out.mono ?_; rintro r9 v2 ⟨pp, cpp, rfl, F7, hp, b7⟩; have B7 : Hid (Below X1.heap.size X1 v2) := Lib.hid ((Below.refl X1.heap.size X1).drew.trans b7); have F7 := Lib.hid F7; have hp7 : Hid (∀ ad, pp = some ad → X1.heap.size ≤ ad.block ∧ ad.block < v2.heap.size) := Lib.hid hp; have KW := KB.out.below B7.out; have q0 : v2.cell? ⟨bx, 0, none⟩ = some (.int .i64 nodes) := KW.cell 0; have q1 : v2.cell? ⟨bx, 1, none⟩ = some (.int .i64 s0.tn) := KW.cell 1; have q2 : v2.cell? ⟨bx, 2, none⟩ = some (.int .i64 s0.id) := KW.cell 2; have q3 : v2.cell? ⟨bx, 3, none⟩ = some (.int .i64 s0.sq) := KW.cell 3; have q4 : v2.cell? ⟨bx, 4, none⟩ = some (.slice wa s0.W.length wcp) := KW.cell 4; have q5 : v2.cell? ⟨bx, 5, none⟩ = some (.slice ra s0.R.length rcp) := KW.cell 5; clear KW hp b7))
                all_goals (go_wp2_with fail; go_meet; exact ⟨rfl, W4.out ▸ L4h, W4.out ▸ K4⟩)
              case rest =>
                obtain ⟨rfl, L4, K4⟩ := hcut
                have t1 : wc.cell? ⟨X, 1, none⟩ = some (.int .i64 xa) := K4.out.cell 1
                have t2 : wc.cell? ⟨X, 2, none⟩ = some (.int .i64 xb) := K4.out.cell 2
                have t3 : wc.cell? ⟨X, 3, none⟩ = some (.int .i64 xc) := K4.out.cell 3
                have t4 : wc.cell? ⟨X, 4, none⟩ = some (.string xe) := K4.out.cell 4
                have t5 : wc.cell? ⟨X, 5, none⟩ = some (.slice fq m fc) := K4.out.cell 5
                have TP := Lib.hid (TPF.out wc L4.out)
                clear b0 b1 b2 b3 b4 b5 k0 k1 k2 k3 k4 k5 KB RE DAF SRE TPF Lh KX L1 K4 L4
                go_wp2_with fail
                refine TP.out.mono ?_
                rintro e9 w9 ⟨rfl, L9⟩
                have L9 := Lib.hid L9
                clear t1 t2 t3 t4 t5 TP
                go_wp2_with fail
                go_meet
                exact ⟨EE, s', rfl, rfl, OK2, L9⟩
            · have k0B : (xk == 0) = false := by rw [beq_eq_false_iff_ne]; exact k0
              by_cases k1 : xk = 1
              · subst k1
                obtain ⟨U, V, wa, wcp, ra, rcp, EW, ER, L⟩ := L1.out
                have Lh := Lib.hid L
                have TD := Lib.hid (ddtold (nodes := nodes) L.dc OK.out (by omega) xer xrn xle)
                have OK2 := Lib.hid (OK.out.told (nodes := nodes) h2 xer xrn xle)
                have hXb : X ≠ bx := by omega
                have hbX : bx ≠ X := by omega
                have b0 : X1.cell? ⟨bx, 0, none⟩ = some (.int .i64 nodes) := L.bk.cell 0
                have b1 : X1.cell? ⟨bx, 1, none⟩ = some (.int .i64 s0.tn) := L.bk.cell 1
                have b2 : X1.cell? ⟨bx, 2, none⟩ = some (.int .i64 s0.id) := L.bk.cell 2
                have b3 : X1.cell? ⟨bx, 3, none⟩ = some (.int .i64 s0.sq) := L.bk.cell 3
                have b4 : X1.cell? ⟨bx, 4, none⟩ = some (.slice wa s0.W.length wcp) := L.bk.cell 4
                have b5 : X1.cell? ⟨bx, 5, none⟩ = some (.slice ra s0.R.length rcp) := L.bk.cell 5
                have k0 : X1.cell? ⟨X, 0, none⟩ = some (.int .i64 1) := KX.out.cell 0
                have k6 : X1.cell? ⟨X, 6, none⟩ = some (.int .i64 xer) := KX.out.cell 6
                have k7 : X1.cell? ⟨X, 7, none⟩ = some (.int .i64 xrn) := KX.out.cell 7
                have k8 : X1.cell? ⟨X, 8, none⟩ = some (.int .i64 xle) := KX.out.cell 8
                unfold DcR dtel at TD
                clear L
                generalize hs' : s0.told nodes xer xrn xle = s' at *
                have HS' := Lib.hid hs'
                clear hs'
                go_wp2_with fail
                refine TD.out.mono ?_
                rintro e v3 ⟨v, rfl, wa', wc', ra', rc', EW', ER', rfl, D', b9⟩
                obtain ⟨w4, hw4, L4, f4⟩ := Lh.out.stored b9 D'
                have KV := Lh.out.bk.below b9
                have KY := KX.out.below b9
                have f0 : v3.cell? ⟨bx, 0, none⟩ = some (.int .i64 nodes) := KV.cell 0
                have f1 : v3.cell? ⟨bx, 1, none⟩ = some (.int .i64 s0.tn) := KV.cell 1
                have f2 : v3.cell? ⟨bx, 2, none⟩ = some (.int .i64 s0.id) := KV.cell 2
                have f3 : v3.cell? ⟨bx, 3, none⟩ = some (.int .i64 s0.sq) := KV.cell 3
                have f4' : v3.cell? ⟨bx, 4, none⟩ = some (.slice wa s0.W.length wcp) := KV.cell 4
                have f5 : v3.cell? ⟨bx, 5, none⟩ = some (.slice ra s0.R.length rcp) := KV.cell 5
                have fz : ∀ i, v3.frozen? ⟨bx, i, none⟩ = false := KV.free
                have y6 : v3.cell? ⟨X, 6, none⟩ = some (.int .i64 xer) := KY.cell 6
                have y7 : v3.cell? ⟨X, 7, none⟩ = some (.int .i64 xrn) := KY.cell 7
                have y8 : v3.cell? ⟨X, 8, none⟩ = some (.int .i64 xle) := KY.cell 8
                have W4 := Lib.hid hw4
                have TP := Lib.hid (L4.told OK.out (by omega) h2 xer xrn xle)
                rw [HS'.out] at TP
                clear b0 b1 b2 b3 b4 b5 k0 k6 k7 k8 TD Lh KX L1 b9 D' KV KY hw4 L4 f4
                go_wp2_with fail
                rw [← W4.out]
                refine TP.out.mono ?_
                rintro e9 w9 ⟨rfl, L9⟩
                have L9 := Lib.hid L9
                clear TP W4 f0 f1 f2 f3 f4' f5 fz y6 y7 y8
                go_wp2_with fail
                go_meet
                exact ⟨0, s', rfl, rfl, OK2, L9⟩
              · have k1B : (xk == 1) = false := by rw [beq_eq_false_iff_ne]; exact k1
                by_cases k2 : xk = 2
                · subst k2
                  obtain ⟨U, V, wa, wcp, ra, rcp, EW, ER, L⟩ := L1.out
                  have Lh := Lib.hid L
                  have TD := Lib.hid (ddlate (nodes := nodes) L.dc OK.out)
                  have OK2 := Lib.hid (OK.out.late (nodes := nodes) h2)
                  have b0 : X1.cell? ⟨bx, 0, none⟩ = some (.int .i64 nodes) := L.bk.cell 0
                  have b1 : X1.cell? ⟨bx, 1, none⟩ = some (.int .i64 s0.tn) := L.bk.cell 1
                  have b2 : X1.cell? ⟨bx, 2, none⟩ = some (.int .i64 s0.id) := L.bk.cell 2
                  have b3 : X1.cell? ⟨bx, 3, none⟩ = some (.int .i64 s0.sq) := L.bk.cell 3
                  have b4 : X1.cell? ⟨bx, 4, none⟩ = some (.slice wa s0.W.length wcp) := L.bk.cell 4
                  have b5 : X1.cell? ⟨bx, 5, none⟩ = some (.slice ra s0.R.length rcp) := L.bk.cell 5
                  have k0 : X1.cell? ⟨X, 0, none⟩ = some (.int .i64 2) := KX.out.cell 0
                  unfold DcR dtel at TD
                  clear L
                  go_wp2_with fail
                  refine TD.out.mono ?_
                  rintro e v3 ⟨v, rfl, wa', wc', ra', rc', EW', ER', rfl, D', b9⟩
                  obtain ⟨w4, hw4, L4, f4⟩ := Lh.out.stored b9 D'
                  have KV := Lh.out.bk.below b9
                  have f0 : v3.cell? ⟨bx, 0, none⟩ = some (.int .i64 nodes) := KV.cell 0
                  have f1 : v3.cell? ⟨bx, 1, none⟩ = some (.int .i64 s0.tn) := KV.cell 1
                  have f2 : v3.cell? ⟨bx, 2, none⟩ = some (.int .i64 s0.id) := KV.cell 2
                  have f3 : v3.cell? ⟨bx, 3, none⟩ = some (.int .i64 s0.sq) := KV.cell 3
                  have f4' : v3.cell? ⟨bx, 4, none⟩ = some (.slice wa s0.W.length wcp) := KV.cell 4
                  have f5 : v3.cell? ⟨bx, 5, none⟩ = some (.slice ra s0.R.length rcp) := KV.cell 5
                  have fz : ∀ i, v3.frozen? ⟨bx, i, none⟩ = false := KV.free
                  have W4 := Lib.hid hw4
                  have TP := Lib.hid (L4.late OK.out h2)
                  clear b0 b1 b2 b3 b4 b5 k0 TD Lh KX L1 b9 D' KV hw4 L4 f4
                  go_wp2_with fail
                  rw [← W4.out]
                  refine TP.out.mono ?_
                  rintro e9 w9 ⟨rfl, L9⟩
                  have L9 := Lib.hid L9
                  clear TP W4 f0 f1 f2 f3 f4' f5 fz
                  go_wp2_with fail
                  go_meet
                  exact ⟨0, _, rfl, rfl, OK2, L9⟩
                · have k2B : (xk == 2) = false := by rw [beq_eq_false_iff_ne]; exact k2
                  have k0 : X1.cell? ⟨X, 0, none⟩ = some (.int .i64 xk) := KX.out.cell 0
                  go_wp2_with fail
                  go_meet
                  exact ⟨0, s0, rfl, rfl, Lib.hid (OK.out.mono (by omega)), L1⟩
          case rest =>
            obtain ⟨E, s', rfl, rfl, OK', L'⟩ := hcut
            clear OK L1 KX HF HM mI mB FO hek2
            obtain ⟨U, V, wa, wcp, ra, rcp, EW, ER, L⟩ := L'.out
            have SM := Lib.hid (L.same OK'.out (by omega))
            have Lh := Lib.hid L
            have b0 : wc.cell? ⟨bx, 0, none⟩ = some (.int .i64 nodes) := L.bk.cell 0
            have b1 : wc.cell? ⟨bx, 1, none⟩ = some (.int .i64 s'.tn) := L.bk.cell 1
            have b2 : wc.cell? ⟨bx, 2, none⟩ = some (.int .i64 s'.id) := L.bk.cell 2
            have b3 : wc.cell? ⟨bx, 3, none⟩ = some (.int .i64 s'.sq) := L.bk.cell 3
            have b4 : wc.cell? ⟨bx, 4, none⟩ = some (.slice wa s'.W.length wcp) := L.bk.cell 4
            have b5 : wc.cell? ⟨bx, 5, none⟩ = some (.slice ra s'.R.length rcp) := L.bk.cell 5
            unfold dtel at SM
            clear L L'
            go_wp2_with fail
            refine SM.out.mono ?_
            rintro e w9 ⟨rfl, b9⟩
            have F9 : Hid (LK W t bx nodes (j + 1) w9) := Lib.hid ⟨s', OK'.out, U, V, wa, wcp, ra, rcp, EW, ER, Lh.out.next b9⟩
            clear b0 b1 b2 b3 b4 b5 b9 SM Lh OK'
            go_wp2_with fail
            go_roundw
            case rel => exact ⟨j + 1, by go_num, by omega, by omega, F9⟩
            case measure => simp [intOf]; omega
        · have mI : (20 : Int) < (m : Int) := by omega
          have mB := decide_eq_true mI
          have NX := Lib.hid (fun o => hR.out.next ((Below.refl wr.heap.size wr).alloc (Nat.le_refl _) o))
          clear hR
          go_wp2_with fail
          go_roundw
          case rel => exact ⟨j + 1, by go_num, by omega, by omega, Lib.hid (NX.out _).more⟩
          case measure => simp [intOf]; omega
      · have kI : ¬ (j : Int) < 300 := by omega
        have kB := decide_eq_false kI
        have F9 := Lib.hid (FIN.out _ _ _ _ hR.out)
        clear hR
        go_wp2_with fail
        go_ret
        exact ⟨rfl, F9.out⟩
    · obtain rfl : j = n := by omega
      have jI : ¬ (j : Int) < (j : Int) := by omega
      have F9 := Lib.hid (FIN.out _ _ _ _ hR.out)
      clear hR
      go_wp2_with fail
      go_ret
      exact ⟨rfl, F9.out⟩
theorem tells_law (nodes : Int) (a : Option Addr) (c : Nat) (R : List AcT) (W : World) (hx : AcsT W a R) (hS : ∀ x ∈ R, x.sm) (hl : R.length ≤ 9223372036854775807) :
    Calls Try.prog 3 #[.int .i64 nodes, .slice a R.length c] W fun e w' => e = .returned (.bool true) ∧ Below W.heap.size W w' := by
  cases h : manyB nodes
  · exact tells_no nodes _ h W
  · exact tells_yes nodes a c R W h hx hS hl
end Go.Proofs.Ytbghjcfepjbppaa
