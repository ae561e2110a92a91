/-
  NetOff as a walk.
-/
import Derived.Test.YtkdaifcnlobhkaaNof
import Derived.Deep.CutBlock
import Derived.Deep.CutRange
import Derived.Deep.DeepCutAuto
namespace Go.Proofs.Ytkdaifcnlobhkaa
open Go.RowKit
theorem wrap_i (x : Int) : IntKind.i64.wrap x = wrap64 x := IntWalk.i64_left x
set_option maxHeartbeats 32000000 in
set_option maxRecDepth 100000 in
theorem off_law (pa pb : Int) (p : Option Addr) (cp : Nat) (L : List (Int × Int)) (w : World) (hP : Prs w p L) (hL : L.length ≤ 9223372036854775807) :
    Calls Try.prog 5 #[.int .i64 pa, .int .i64 pb, .slice p L.length cp] w fun e w' => e = .returned (.bool true) ∧ Below w.heap.size w w' := by
  obtain ⟨a, ea, ha⟩ := rem_two pa 7 (by decide) (by decide)
  obtain ⟨b, eb, hb⟩ := rem_two pb 7 (by decide) (by decide)
  have ha7 : a < 7 := by omega
  have hb7 : b < 7 := by omega
  have NW := Lib.hid (net_new w w (fun _ => ⟨0, 1, 1⟩) (Below.refl _ _))
  have AW := Lib.hid awake_any
  have HPR := Lib.hid hP
  clear hP
  generalize hn : L.length = n at *
  have HN := Lib.hid hn
  clear hn
  go_enter Try.func5, Try.ntmps5
  go_wp2_with fail
  refine NW.out.mono ?_
  rintro e w1 ⟨N, rfl, h1⟩
  have H1 := Lib.hid h1
  clear h1 NW
  go_wp2_with fail
  refine (AW.out _).mono ?_
  rintro e w2 ⟨rfl, b2⟩
  have H2 := Lib.hid (H1.out.next b2)
  clear b2 H1 ea eb
  by_cases hab : a = b
  · have hab1 : ((a : Int) == (b : Int)) = true := by simp [hab]
    go_wp2_with fail
    refine (AW.out _).mono ?_
    rintro e w3 ⟨rfl, b3⟩
    have B3 := Lib.hid (H2.out.next b3).bel
    clear b3 H2
    go_wp2_with fail
    go_ret
    exact ⟨rfl, B3.out⟩
  have hab1 : ((a : Int) == (b : Int)) = false := by simp; omega
  by_cases hnl : 100 < n
  · have hnI : (100 : Int) < (n : Int) := by omega
    go_wp2_with fail
    refine (AW.out _).mono ?_
    rintro e w3 ⟨rfl, b3⟩
    have B3 := Lib.hid (H2.out.next b3).bel
    clear b3 H2
    go_wp2_with fail
    go_ret
    exact ⟨rfl, B3.out⟩
  have hnI : ¬ (100 : Int) < (n : Int) := by omega
  have hnB : decide ((100 : Int) < (n : Int)) = false := decide_eq_false hnI
  have O0 : Hid (OffI w N a b n 0 0 [] (fun _ => ⟨0, 1, 1⟩) (Ck a b n 0) 0 w2) := Lib.hid ⟨by
    have := H2.out
    unfold Ck
    rw [if_neg (by omega)]
    exact this, Nat.le_refl _, Int.le_refl _, fun x hx => by simp at hx, fun x hx => by simp at hx, rfl⟩
  clear H2
  go_wp2_with fail
  go_loopw [8, 9] (fun c i wr => ∃ (k : Nat) (Z : Int) (R : List Ag.It) (G : Int → Ask) (cc : Nat), c = .int .i64 (cc : Int) ∧ i = .int .i64 (k : Int) ∧ k ≤ n ∧ cc ≤ k ∧ Hid (OffI w N a b n k Z R G (Ck a b n k) cc wr)) (fun _ i _ => n - (intOf i).toNat)
  case atStart => exact ⟨0, 0, [], _, 0, rfl, rfl, Nat.zero_le _, Nat.le_refl _, O0⟩
  case round =>
    obtain ⟨k, Z, R, G, cc, rfl, rfl, hk, hcc, hO⟩ := hrel
    clear O0
    by_cases hlt : k < n
    · have h1 : (k : Int) < (n : Int) := by omega
      have h0 : (0 : Int) ≤ (k : Int) := by omega
      have hkL : k < L.length := by rw [HN.out]; exact hlt
      obtain ⟨g, po, rfl, hg, d0, d1⟩ := HPR.out.below hO.out.s.bel k hkL
      clear hg
      obtain ⟨x, ex, hx⟩ := rem_two L[k].1 7 (by decide) (by decide)
      obtain ⟨y, ey, hy⟩ := rem_two L[k].2 7 (by decide) (by decide)
      generalize L[k].1 = lx at *
      generalize L[k].2 = ly at *
      have ex' : (IntKind.i64.wrap (lx.tmod 7 + 7)).tmod 7 = (x : Int) := by rw [wrap_i]; exact ex
      have ey' : (IntKind.i64.wrap (ly.tmod 7 + 7)).tmod 7 = (y : Int) := by rw [wrap_i]; exact ey
      have hx7 : x < 7 := by omega
      have hy7 : y < 7 := by omega
      go_wp2_with fail
      go_quiet (fail)
      have O1 := Lib.hid (hO.out.next (bel_drewN wr nq))
      clear hO d0 d1 ex ey ex' ey'
      generalize wr.drewN nq = w3 at *
      go_upto_if 71 with fail
      go_cut [70, 71] (fun s70 s71 wx => Hid (OffI w N a b n k Z R G (Ck a b n (k + 1)) cc wx))
      case first =>
        by_cases hk2 : k = n / 2
        · have hkb : ((k : Int) == (n : Int) / 2) = true := by simp; omega
          have CU := Lib.hid (net_cut O1.out.s a b ha7 hb7 hab true)
          rw [hk2, ck_cut] at CU
          rw [← hk2] at CU
          clear hk2
          go_wp2_with fail
          refine CU.out.mono ?_
          rintro e w4 ⟨rfl, h4⟩
          have O4 := Lib.hid (show OffI w N a b n k Z R G (Ck a b n (k + 1)) cc w4 from ⟨h4, O1.out.l, O1.out.z, O1.out.t, O1.out.i, O1.out.c⟩)
          clear h4 CU
          go_wp2_with fail
          go_meet
          exact O4
        · have hkb : ((k : Int) == (n : Int) / 2) = false := by simp; omega
          go_wp2_with fail
          go_meet
          exact Lib.hid (by rw [← ck_same hk2]; exact O1.out)
      case rest =>
        have O2 := hcut
        clear hcut O1
        have hk100 : k < 100 := by omega
        go_wp2_with fail
        refine (ask_fun x y k _).mono ?_
        rintro e w5 ⟨rfl, b5⟩
        have SO := Lib.hid (send_off (O2.out.next b5) hk100 x y hx7 hy7)
        clear b5 O2
        unfold askA at SO
        unfold askA
        go_wp2_with fail
        refine SO.out.mono ?_
        rintro e w6 ⟨idn, er, Z6, R6, G6, rfl, her, h6⟩
        have HA : Hid (addO a b x y = if (x : Int) = (y : Int) ∨ ((x : Int) = a ∧ (y : Int) = b ∨ (x : Int) = b ∧ (y : Int) = a) then 0 else 1) := Lib.hid (by
          unfold addO
          by_cases h : (x : Int) = (y : Int) ∨ ((x : Int) = a ∧ (y : Int) = b ∨ (x : Int) = b ∧ (y : Int) = a)
          · rw [if_pos h, if_pos (h.imp (fun z => z) (cc_iff a b x y).2)]
          · rw [if_neg h, if_neg (fun z => h (z.imp (fun z => z) (cc_iff a b x y).1))])
        have O6 := Lib.hid h6
        clear h6 SO
        have hcc1 : cc + 1 ≤ k + 1 := by omega
        have hk1 : k + 1 ≤ n := by omega
        by_cases q1 : (x : Int) = a
        · by_cases q2 : (y : Int) = b
          · by_cases q3 : (x : Int) = b
            · by_cases q4 : (y : Int) = a
              · by_cases q5 : (x : Int) = y
                · exfalso; omega
                · exfalso; omega
              · by_cases q5 : (x : Int) = y
                · exfalso; omega
                · exfalso; omega
            · by_cases q4 : (y : Int) = a
              · by_cases q5 : (x : Int) = y
                · exfalso; omega
                · exfalso; omega
              · by_cases q5 : (x : Int) = y
                · exfalso; omega
                · have p1 : ((x : Int) == (a : Int)) = true := by simp; omega
                  have p2 : ((y : Int) == (b : Int)) = true := by simp; omega
                  have p3 : ((x : Int) == (b : Int)) = false := by simp; omega
                  have p4 : ((y : Int) == (a : Int)) = false := by simp; omega
                  have p5 : ((x : Int) == (y : Int)) = false := by simp; omega
                  have O7 : Hid (OffI w N a b n (k + 1) Z6 R6 G6 (Ck a b n (k + 1)) (cc + 0) w6) := Lib.hid (by have h := O6.out; rw [HA.out, if_pos (by omega)] at h; exact h)
                  obtain rfl : er = 0 := by rw [her, if_neg (by omega)]
                  clear O6 HA q1 q2 q3 q4 q5 her
                  go_wp2_with fail
                  go_roundw
                  case rel => exact ⟨k + 1, Z6, R6, G6, cc + 0, by first | rfl | go_num, by go_num, hk1, by omega, O7⟩
                  case measure => simp [intOf]; omega
          · by_cases q3 : (x : Int) = b
            · by_cases q4 : (y : Int) = a
              · by_cases q5 : (x : Int) = y
                · exfalso; omega
                · exfalso; omega
              · by_cases q5 : (x : Int) = y
                · exfalso; omega
                · exfalso; omega
            · by_cases q4 : (y : Int) = a
              · by_cases q5 : (x : Int) = y
                · have p1 : ((x : Int) == (a : Int)) = true := by simp; omega
                  have p2 : ((y : Int) == (b : Int)) = false := by simp; omega
                  have p3 : ((x : Int) == (b : Int)) = false := by simp; omega
                  have p4 : ((y : Int) == (a : Int)) = true := by simp; omega
                  have p5 : ((x : Int) == (y : Int)) = true := by simp; omega
                  have O7 : Hid (OffI w N a b n (k + 1) Z6 R6 G6 (Ck a b n (k + 1)) (cc + 0) w6) := Lib.hid (by have h := O6.out; rw [HA.out, if_pos (by omega)] at h; exact h)
                  obtain rfl : er = 1 := by rw [her, if_pos (by omega)]
                  clear O6 HA q1 q2 q3 q4 q5 her
                  go_wp2_with fail
                  go_roundw
                  case rel => exact ⟨k + 1, Z6, R6, G6, cc + 0, by first | rfl | go_num, by go_num, hk1, by omega, O7⟩
                  case measure => simp [intOf]; omega
                · exfalso; omega
              · by_cases q5 : (x : Int) = y
                · exfalso; omega
                · have p1 : ((x : Int) == (a : Int)) = true := by simp; omega
                  have p2 : ((y : Int) == (b : Int)) = false := by simp; omega
                  have p3 : ((x : Int) == (b : Int)) = false := by simp; omega
                  have p4 : ((y : Int) == (a : Int)) = false := by simp; omega
                  have p5 : ((x : Int) == (y : Int)) = false := by simp; omega
                  have O7 : Hid (OffI w N a b n (k + 1) Z6 R6 G6 (Ck a b n (k + 1)) (cc + 1) w6) := Lib.hid (by have h := O6.out; rw [HA.out, if_neg (by omega)] at h; exact h)
                  obtain rfl : er = 0 := by rw [her, if_neg (by omega)]
                  clear O6 HA q1 q2 q3 q4 q5 her
                  go_wp2_with fail
                  go_roundw
                  case rel => exact ⟨k + 1, Z6, R6, G6, cc + 1, by first | rfl | go_num, by go_num, hk1, by omega, O7⟩
                  case measure => simp [intOf]; omega
        · by_cases q2 : (y : Int) = b
          · by_cases q3 : (x : Int) = b
            · by_cases q4 : (y : Int) = a
              · by_cases q5 : (x : Int) = y
                · exfalso; omega
                · exfalso; omega
              · by_cases q5 : (x : Int) = y
                · have p1 : ((x : Int) == (a : Int)) = false := by simp; omega
                  have p2 : ((y : Int) == (b : Int)) = true := by simp; omega
                  have p3 : ((x : Int) == (b : Int)) = true := by simp; omega
                  have p4 : ((y : Int) == (a : Int)) = false := by simp; omega
                  have p5 : ((x : Int) == (y : Int)) = true := by simp; omega
                  have O7 : Hid (OffI w N a b n (k + 1) Z6 R6 G6 (Ck a b n (k + 1)) (cc + 0) w6) := Lib.hid (by have h := O6.out; rw [HA.out, if_pos (by omega)] at h; exact h)
                  obtain rfl : er = 1 := by rw [her, if_pos (by omega)]
                  clear O6 HA q1 q2 q3 q4 q5 her
                  go_wp2_with fail
                  go_roundw
                  case rel => exact ⟨k + 1, Z6, R6, G6, cc + 0, by first | rfl | go_num, by go_num, hk1, by omega, O7⟩
                  case measure => simp [intOf]; omega
                · exfalso; omega
            · by_cases q4 : (y : Int) = a
              · by_cases q5 : (x : Int) = y
                · exfalso; omega
                · exfalso; omega
              · by_cases q5 : (x : Int) = y
                · exfalso; omega
                · have p1 : ((x : Int) == (a : Int)) = false := by simp; omega
                  have p2 : ((y : Int) == (b : Int)) = true := by simp; omega
                  have p3 : ((x : Int) == (b : Int)) = false := by simp; omega
                  have p4 : ((y : Int) == (a : Int)) = false := by simp; omega
                  have p5 : ((x : Int) == (y : Int)) = false := by simp; omega
                  have O7 : Hid (OffI w N a b n (k + 1) Z6 R6 G6 (Ck a b n (k + 1)) (cc + 1) w6) := Lib.hid (by have h := O6.out; rw [HA.out, if_neg (by omega)] at h; exact h)
                  obtain rfl : er = 0 := by rw [her, if_neg (by omega)]
                  clear O6 HA q1 q2 q3 q4 q5 her
                  go_wp2_with fail
                  go_roundw
                  case rel => exact ⟨k + 1, Z6, R6, G6, cc + 1, by first | rfl | go_num, by go_num, hk1, by omega, O7⟩
                  case measure => simp [intOf]; omega
          · by_cases q3 : (x : Int) = b
            · by_cases q4 : (y : Int) = a
              · by_cases q5 : (x : Int) = y
                · exfalso; omega
                · have p1 : ((x : Int) == (a : Int)) = false := by simp; omega
                  have p2 : ((y : Int) == (b : Int)) = false := by simp; omega
                  have p3 : ((x : Int) == (b : Int)) = true := by simp; omega
                  have p4 : ((y : Int) == (a : Int)) = true := by simp; omega
                  have p5 : ((x : Int) == (y : Int)) = false := by simp; omega
                  have O7 : Hid (OffI w N a b n (k + 1) Z6 R6 G6 (Ck a b n (k + 1)) (cc + 0) w6) := Lib.hid (by have h := O6.out; rw [HA.out, if_pos (by omega)] at h; exact h)
                  obtain rfl : er = 0 := by rw [her, if_neg (by omega)]
                  clear O6 HA q1 q2 q3 q4 q5 her
                  go_wp2_with fail
                  go_roundw
                  case rel => exact ⟨k + 1, Z6, R6, G6, cc + 0, by first | rfl | go_num, by go_num, hk1, by omega, O7⟩
                  case measure => simp [intOf]; omega
              · by_cases q5 : (x : Int) = y
                · exfalso; omega
                · have p1 : ((x : Int) == (a : Int)) = false := by simp; omega
                  have p2 : ((y : Int) == (b : Int)) = false := by simp; omega
                  have p3 : ((x : Int) == (b : Int)) = true := by simp; omega
                  have p4 : ((y : Int) == (a : Int)) = false := by simp; omega
                  have p5 : ((x : Int) == (y : Int)) = false := by simp; omega
                  have O7 : Hid (OffI w N a b n (k + 1) Z6 R6 G6 (Ck a b n (k + 1)) (cc + 1) w6) := Lib.hid (by have h := O6.out; rw [HA.out, if_neg (by omega)] at h; exact h)
                  obtain rfl : er = 0 := by rw [her, if_neg (by omega)]
                  clear O6 HA q1 q2 q3 q4 q5 her
                  go_wp2_with fail
                  go_roundw
                  case rel => exact ⟨k + 1, Z6, R6, G6, cc + 1, by first | rfl | go_num, by go_num, hk1, by omega, O7⟩
                  case measure => simp [intOf]; omega
            · by_cases q4 : (y : Int) = a
              · by_cases q5 : (x : Int) = y
                · exfalso; omega
                · have p1 : ((x : Int) == (a : Int)) = false := by simp; omega
                  have p2 : ((y : Int) == (b : Int)) = false := by simp; omega
                  have p3 : ((x : Int) == (b : Int)) = false := by simp; omega
                  have p4 : ((y : Int) == (a : Int)) = true := by simp; omega
                  have p5 : ((x : Int) == (y : Int)) = false := by simp; omega
                  have O7 : Hid (OffI w N a b n (k + 1) Z6 R6 G6 (Ck a b n (k + 1)) (cc + 1) w6) := Lib.hid (by have h := O6.out; rw [HA.out, if_neg (by omega)] at h; exact h)
                  obtain rfl : er = 0 := by rw [her, if_neg (by omega)]
                  clear O6 HA q1 q2 q3 q4 q5 her
                  go_wp2_with fail
                  go_roundw
                  case rel => exact ⟨k + 1, Z6, R6, G6, cc + 1, by first | rfl | go_num, by go_num, hk1, by omega, O7⟩
                  case measure => simp [intOf]; omega
              · by_cases q5 : (x : Int) = y
                · have p1 : ((x : Int) == (a : Int)) = false := by simp; omega
                  have p2 : ((y : Int) == (b : Int)) = false := by simp; omega
                  have p3 : ((x : Int) == (b : Int)) = false := by simp; omega
                  have p4 : ((y : Int) == (a : Int)) = false := by simp; omega
                  have p5 : ((x : Int) == (y : Int)) = true := by simp; omega
                  have O7 : Hid (OffI w N a b n (k + 1) Z6 R6 G6 (Ck a b n (k + 1)) (cc + 0) w6) := Lib.hid (by have h := O6.out; rw [HA.out, if_pos (by omega)] at h; exact h)
                  obtain rfl : er = 1 := by rw [her, if_pos (by omega)]
                  clear O6 HA q1 q2 q3 q4 q5 her
                  go_wp2_with fail
                  go_roundw
                  case rel => exact ⟨k + 1, Z6, R6, G6, cc + 0, by first | rfl | go_num, by go_num, hk1, by omega, O7⟩
                  case measure => simp [intOf]; omega
                · have p1 : ((x : Int) == (a : Int)) = false := by simp; omega
                  have p2 : ((y : Int) == (b : Int)) = false := by simp; omega
                  have p3 : ((x : Int) == (b : Int)) = false := by simp; omega
                  have p4 : ((y : Int) == (a : Int)) = false := by simp; omega
                  have p5 : ((x : Int) == (y : Int)) = false := by simp; omega
                  have O7 : Hid (OffI w N a b n (k + 1) Z6 R6 G6 (Ck a b n (k + 1)) (cc + 1) w6) := Lib.hid (by have h := O6.out; rw [HA.out, if_neg (by omega)] at h; exact h)
                  obtain rfl : er = 0 := by rw [her, if_neg (by omega)]
                  clear O6 HA q1 q2 q3 q4 q5 her
                  go_wp2_with fail
                  go_roundw
                  case rel => exact ⟨k + 1, Z6, R6, G6, cc + 1, by first | rfl | go_num, by go_num, hk1, by omega, O7⟩
                  case measure => simp [intOf]; omega
    · have ek : k = n := by omega
      subst ek
      have h1 : ¬ (k : Int) < (k : Int) := by omega
      have CU := Lib.hid (net_cut hO.out.s a b ha7 hb7 hab true)
      rw [ck_end] at CU
      have hRl : Hid (R.length ≤ 4096) := Lib.hid (by have := hO.out.l; omega)
      have hZl : Hid (Z ≤ 1000) := Lib.hid (by have := hO.out.z; omega)
      have eX : Hid (R.filter (fun x => decide (x.t ≤ 1)) = R) := Lib.hid (List.filter_eq_self.2 (fun x hx => by rw [hO.out.t x hx]; rfl))
      have eN : Hid (R.filter (fun x => !decide (x.t ≤ 1)) = []) := Lib.hid (List.filter_eq_nil_iff.2 (fun x hx => by rw [hO.out.t x hx]; decide))
      have hC : Hid ((selA (CCf a b) G R).length = cc) := Lib.hid hO.out.c
      clear hO
      go_wp2_with fail
      refine CU.out.mono ?_
      rintro e w3 ⟨rfl, h3⟩
      have DU := Lib.hid (net_dueK h3 1 hRl.out (by have := hZl.out; omega))
      rw [eX.out, eN.out] at DU
      clear h3 CU
      go_wp2_with fail
      refine DU.out.mono ?_
      rintro e w4 ⟨ga, gc, rfl, h4, o4, _⟩
      have H4 := Lib.hid h4
      have O4 := Lib.hid o4
      have NOF : Hid (∀ x ∈ selA (CCf a b) G R, ¬ (x.f = a ∧ x.t = b ∨ x.f = b ∧ x.t = a)) := Lib.hid (fun x hx hh => by
        have h := selA_off hx
        rw [(cc_iff a b x.f x.t).2 hh] at h
        cases h)
      clear h4 o4 DU eX eN
      generalize selA (CCf a b) G R = LA at *
      rw [hC.out] at O4
      rw [hC.out]
      go_wp2_with fail
      go_loop [16] (fun i => ∃ j : Nat, i = .int .i64 (j : Int) ∧ j ≤ cc) (fun i => cc - (intOf i).toNat)
      case atStart => exact ⟨0, rfl, Nat.zero_le _⟩
      case round =>
        obtain ⟨j, rfl, hj⟩ := hrel
        by_cases hjl : j < cc
        · have hj1 : (j : Int) < (cc : Int) := by omega
          have hj0 : (0 : Int) ≤ (j : Int) := by omega
          have hjL : j < LA.length := by rw [hC.out]; exact hjl
          obtain ⟨gg, c9, hv, hcell⟩ := row_ask hC.out.symm O4.out hjL
          obtain ⟨rfl, rfl⟩ : ga = some ⟨gg, 0, none⟩ ∧ gc = c9 := by simp only [Value.slice.injEq] at hv; exact ⟨hv.1, hv.2.2⟩
          have z1 := hcell 1 (by decide)
          have z2 := hcell 2 (by decide)
          have NO := Lib.hid (NOF.out LA[j] (List.getElem_mem hjL))
          clear hv hcell
          have z1 : w4.cell? ⟨gg, j * 13 + 1, none⟩ = some (.int .i64 LA[j].f) := z1
          have z2 : w4.cell? ⟨gg, j * 13 + 2, none⟩ = some (.int .i64 LA[j].t) := z2
          generalize LA[j].f = f at *
          generalize LA[j].t = t at *
          by_cases q1 : f = (a : Int)
          · by_cases q2 : t = (b : Int)
            · by_cases q3 : f = (b : Int)
              · by_cases q4 : t = (a : Int)
                · exfalso; omega
                · exfalso; omega
              · by_cases q4 : t = (a : Int)
                · exfalso; omega
                · exfalso; exact NO.out (.inl ⟨q1, q2⟩)
            · by_cases q3 : f = (b : Int)
              · by_cases q4 : t = (a : Int)
                · exfalso; omega
                · exfalso; omega
              · by_cases q4 : t = (a : Int)
                · have p1 : (f == (a : Int)) = true := by simp [q1]
                  have p2 : (t == (b : Int)) = false := by simp [q2]
                  have p3 : (f == (b : Int)) = false := by simp [q3]
                  have p4 : (t == (a : Int)) = true := by simp [q4]
                  clear q1 q2 q3 q4
                  go_wp2_with fail
                  go_round
                  case rel => exact ⟨j + 1, by go_num, by omega⟩
                  case measure => simp [intOf]; omega
                · have p1 : (f == (a : Int)) = true := by simp [q1]
                  have p2 : (t == (b : Int)) = false := by simp [q2]
                  have p3 : (f == (b : Int)) = false := by simp [q3]
                  have p4 : (t == (a : Int)) = false := by simp [q4]
                  clear q1 q2 q3 q4
                  go_wp2_with fail
                  go_round
                  case rel => exact ⟨j + 1, by go_num, by omega⟩
                  case measure => simp [intOf]; omega
          · by_cases q2 : t = (b : Int)
            · by_cases q3 : f = (b : Int)
              · by_cases q4 : t = (a : Int)
                · exfalso; omega
                · have p1 : (f == (a : Int)) = false := by simp [q1]
                  have p2 : (t == (b : Int)) = true := by simp [q2]
                  have p3 : (f == (b : Int)) = true := by simp [q3]
                  have p4 : (t == (a : Int)) = false := by simp [q4]
                  clear q1 q2 q3 q4
                  go_wp2_with fail
                  go_round
                  case rel => exact ⟨j + 1, by go_num, by omega⟩
                  case measure => simp [intOf]; omega
              · by_cases q4 : t = (a : Int)
                · exfalso; omega
                · have p1 : (f == (a : Int)) = false := by simp [q1]
                  have p2 : (t == (b : Int)) = true := by simp [q2]
                  have p3 : (f == (b : Int)) = false := by simp [q3]
                  have p4 : (t == (a : Int)) = false := by simp [q4]
                  clear q1 q2 q3 q4
                  go_wp2_with fail
                  go_round
                  case rel => exact ⟨j + 1, by go_num, by omega⟩
                  case measure => simp [intOf]; omega
            · by_cases q3 : f = (b : Int)
              · by_cases q4 : t = (a : Int)
                · exfalso; exact NO.out (.inr ⟨q3, q4⟩)
                · have p1 : (f == (a : Int)) = false := by simp [q1]
                  have p2 : (t == (b : Int)) = false := by simp [q2]
                  have p3 : (f == (b : Int)) = true := by simp [q3]
                  have p4 : (t == (a : Int)) = false := by simp [q4]
                  clear q1 q2 q3 q4
                  go_wp2_with fail
                  go_round
                  case rel => exact ⟨j + 1, by go_num, by omega⟩
                  case measure => simp [intOf]; omega
              · by_cases q4 : t = (a : Int)
                · have p1 : (f == (a : Int)) = false := by simp [q1]
                  have p2 : (t == (b : Int)) = false := by simp [q2]
                  have p3 : (f == (b : Int)) = false := by simp [q3]
                  have p4 : (t == (a : Int)) = true := by simp [q4]
                  clear q1 q2 q3 q4
                  go_wp2_with fail
                  go_round
                  case rel => exact ⟨j + 1, by go_num, by omega⟩
                  case measure => simp [intOf]; omega
                · have p1 : (f == (a : Int)) = false := by simp [q1]
                  have p2 : (t == (b : Int)) = false := by simp [q2]
                  have p3 : (f == (b : Int)) = false := by simp [q3]
                  have p4 : (t == (a : Int)) = false := by simp [q4]
                  clear q1 q2 q3 q4
                  go_wp2_with fail
                  go_round
                  case rel => exact ⟨j + 1, by go_num, by omega⟩
                  case measure => simp [intOf]; omega
        · have ej : j = cc := by omega
          subst ej
          have hj1 : ¬ (j : Int) < (j : Int) := by omega
          have CV := Lib.hid (net_cut H4.out b a hb7 ha7 (fun h => hab h.symm) false)
          rw [cc_off] at CV
          go_wp2_with fail
          refine CV.out.mono ?_
          rintro e w5 ⟨rfl, h5⟩
          have H5 := Lib.hid h5
          clear h5 CV H4 O4 NOF
          go_wp2_with fail
          refine (ask_fun a b 3 _).mono ?_
          rintro e w6 ⟨rfl, b6⟩
          have SN := Lib.hid (send_any (H5.out.next b6) 1 0 ⟨a, b, 3⟩ ⟨by simp only; omega, by simp only; omega, by simp only; omega, by simp only; omega⟩ (by decide) (by decide) rfl (by decide) (by have := hZl.out; omega))
          have hZ0 := H5.out.z
          clear b6 H5
          unfold SentN at SN
          unfold askA at SN
          unfold askA
          go_wp2_with fail
          refine SN.out.mono ?_
          rintro e w7 ⟨rfl, h7⟩
          have DV := Lib.hid (net_dueK h7 1 (by simp [Ag.ins]) (by have := hZl.out; omega))
          have B7 := Lib.hid h7.bel
          clear h7 SN
          go_wp2_with fail
          refine DV.out.mono ?_
          rintro e w8 ⟨a8, c8, rfl, h8, _, _⟩
          have B8 := Lib.hid h8.bel
          clear h8 DV
          rw [show (selA noC (fun i => if i = Z + 1 then (⟨a, b, 3⟩ : Ask) else G i) ((Ag.ins ⟨1 + 0, Z + 1, 0⟩ []).filter (fun x => decide (x.t ≤ 1)))).length = 1 from rfl]
          have hZ1 : (0 : Int) < Z + 1 := by omega
          go_wp2_with fail
          go_ret
          exact ⟨rfl, B8.out⟩
end Go.Proofs.Ytkdaifcnlobhkaa
