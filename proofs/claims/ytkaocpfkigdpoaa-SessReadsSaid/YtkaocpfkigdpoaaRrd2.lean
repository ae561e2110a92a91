/-
  The document's Read: the walk.
-/
import Derived.Test.YtkaocpfkigdpoaaRrd
namespace Go.Proofs.Ytkaocpfkigdpoaa
open Go.RowKit
theorem rdr_no {w w' : World} {o : Option (List Sn)} (h : o = none) (b : Below w.heap.size w w') : Rdr w o (.returned (.tuple #[.agg #[.slice none 0 0], .int .i64 3])) w' := by
  subst h
  exact ⟨rfl, b⟩
theorem om_x {x : Int} (h0 : 0 ≤ x) (h1 : x ≤ 549755813888) : wrap64 x = x := by unfold wrap64; omega
theorem om_k {j k n : Nat} (hk : j = k + 1) (ln : n = j) : k < n := by omega
theorem om_l {j k n : Nat} (hk : j = k + 1) (ln : n = j) : n - 1 = k := by omega
theorem om_w {j k n : Nat} (hk : j = k + 1) (hj : j ≤ n) (hn : n ≤ 32) : wrap64 ((j : Int) - 1) = (j : Int) - 1 := by unfold wrap64; omega
theorem om_t {j k : Nat} (hk : j = k + 1) : ((j : Int) - 1).toNat = k := by omega
theorem om_1 {j k : Nat} (hk : j = k + 1) : (0 : Int) ≤ (j : Int) - 1 := by omega
theorem om_2 {j k n : Nat} (_hk : j = k + 1) (ln : n = j) : (j : Int) - 1 < (n : Int) := by omega
theorem om_g {b c g : Nat} (h0 : c + 1 ≤ g) (h : b < c) : ¬ g = b := by omega
theorem om_0 {j : Nat} (h : ¬ j = 0) : (0 : Int) < (j : Int) := by omega
theorem om_s {j : Nat} (h : ¬ j = 0) : j = j - 1 + 1 := by omega
theorem om_m {j n : Nat} (h : j + 1 ≤ n) : n - (intOf (.int .i64 ((j : Int) + 1))).toNat < n - (intOf (.int .i64 (j : Int))).toNat := by simp [intOf]; omega
theorem Ds.fail {w0 w : World} {b4 b6 : Nat} {t : Tp} {v : Value} {L : List Sn} (h : Ds w0 w b4 b6 t v L) (u : Tp) :
    ∃ W, W = (((w.setCell ⟨b4, 0, none⟩ (.string u.1)).setCell ⟨b4, 1, none⟩ (.int .i64 u.2)).setCell ⟨w0.heap.size, 0, none⟩ (.slice none 0 0)).alloc (.cells #[.string u.1, .int .i64 u.2] 73) ∧ W.cell? ⟨w0.heap.size, 0, none⟩ = some (.slice none 0 0) ∧ Below w0.heap.size w0 W := by
  have k := h.tape u
  have b := k.bel.setCell (p := ⟨w0.heap.size, 0, none⟩) (Nat.le_refl _) (.slice none 0 0)
  exact ⟨_, rfl, ((k.k2.set 0 (.slice none 0 0)).next ((Below.refl _ _).alloc (Nat.le_refl _) _)).cell 0, b.alloc b.size _⟩
set_option maxHeartbeats 4000000 in
set_option maxRecDepth 100000 in
theorem rread_any (s : ByteArray) (hs : s.size ≤ 281474976710656) (w : World) : Calls Try.prog 24 #[.string s] w (Rdr w (rdT s)) := by
  obtain ⟨i0, hi, hz0, hz1, hz2⟩ := info_parts info58
  have hpn := pn_lt (s, 0)
  have hsz := pn_le (s, 0)
  simp only at hsz
  have R1 := Lib.hid (rn_any (s, 0) hs (w.alloc (.cells #[.slice none 0 0] 27)))
  have K0 := Lib.hid (Blk.new w 27 #[.slice none 0 0])
  have B0 := Lib.hid ((Below.refl w.heap.size w).alloc (Nat.le_refl _) (.cells #[.slice none 0 0] 27))
  by_cases h32 : 32 < (pn (s, 0)).1
  · have R : rdT s = none := by unfold rdT; rw [if_pos h32]
    have FIN := Lib.hid (fun w' (b : Below w.heap.size w w') => rdr_no R b)
    have h32I : (32 : Int) < ((pn (s, 0)).1 : Int) := by omega
    clear R
    generalize hQ : Rdr w (rdT s) = Q at *
    clear hQ
    generalize (pn (s, 0)).1 = n at *
    generalize (pn (s, 0)).2 = t1 at *
    go_enter Try.func24, Try.ntmps24
    go_wp2_with fail
    refine R1.out.mono ?_
    rintro e w1 ⟨rfl, b1⟩
    have b2 := Lib.hid (B0.out.trans (b1.mono (by simp)))
    have k2 := K0.out.next b1
    have c2 := k2.cell 0
    simp only [List.getElem?_toArray, List.getElem?_cons_zero] at c2
    have f2 := k2.free 0
    have hz := k2.lt
    have KK := Lib.hid k2
    clear b1 k2
    go_wp2_with fail
    obtain ⟨W, hW⟩ : ∃ W, W = ((w1.setCell ⟨w.heap.size, 0, none⟩ (.slice none 0 0)).alloc (.cells #[.string t1.1, .int .i64 t1.2] 73)).alloc (.cells #[.slice none 0 0] 27) := ⟨_, rfl⟩
    have kW : Blk W w.heap.size 27 #[.slice none 0 0] := by
      rw [hW]
      exact ((KK.out.set 0 (.slice none 0 0)).next ((Below.refl _ _).alloc (Nat.le_refl _) _)).next ((Below.refl _ _).alloc (Nat.le_refl _) _)
    have bW : Below w.heap.size w W := by
      rw [hW]
      have b3 := b2.out.setCell (p := ⟨w.heap.size, 0, none⟩) (Nat.le_refl _) (.slice none 0 0)
      have b4 := b3.alloc b3.size (.cells #[.string t1.1, .int .i64 t1.2] 73)
      exact b4.alloc b4.size _
    have z0 : W.cell? ⟨w.heap.size, 0, none⟩ = some (.slice none 0 0) := kW.cell 0
    rw [← hW]
    clear hW c2 f2 kW
    refine bodyPost_ret (by simp [results, Try.results24, go_sem, z0]; try rfl) rfl ?_
    exact FIN.out _ bW
  have NO := Lib.hid (fun j (hj : j ≤ (pn (s, 0)).1) (h : it (pn (s, 0)).2 j = none) w' (b : Below w.heap.size w w') => show Rdr w (rdT s) (.returned (.tuple #[.agg #[.slice none 0 0], .int .i64 3])) w' from rdr_no (by unfold rdT; rw [if_neg h32, it_none h _ hj]) b)
  have BAD := Lib.hid (fun L t (h : it (pn (s, 0)).2 (pn (s, 0)).1 = some (L, t)) (he : Bt.endE t.1 t.2 ≠ 0) w' (b : Below w.heap.size w w') => show Rdr w (rdT s) (.returned (.tuple #[.agg #[.slice none 0 0], .int .i64 3])) w' from rdr_no (by unfold rdT; rw [if_neg h32, h]; simp only; rw [if_neg he]) b)
  have YES := Lib.hid (fun L t (h : it (pn (s, 0)).2 (pn (s, 0)).1 = some (L, t)) (he : Bt.endE t.1 t.2 = 0) v w' (o : OwnR w' w.heap.size v L) (b : Below w.heap.size w w') => show Rdr w (rdT s) (.returned (.tuple #[.agg #[v], .int .i64 0])) w' by
    have e : rdT s = some L := by unfold rdT; rw [if_neg h32, h]; simp only; rw [if_pos he]
    rw [e]
    exact ⟨v, rfl, o, b⟩)
  have STP := Lib.hid (fun j (L : List Sn) (t : Tp) (h : it (pn (s, 0)).2 j = some (L, t)) => show it (pn (s, 0)).2 (j + 1) = stp (L, t) by show (it _ j).bind stp = _; rw [h]; rfl)
  have SZ := Lib.hid (fun j (L : List Sn) (t : Tp) (h : it (pn (s, 0)).2 j = some (L, t)) => show t.1.size ≤ 281474976710656 from Nat.le_trans (it_size h) (Nat.le_trans hsz hs))
  have OK := Lib.hid (fun j (hj : j ≤ 32) (L : List Sn) (t : Tp) (h : it (pn (s, 0)).2 j = some (L, t)) => it_ok hj h)
  have LEN := Lib.hid (fun j (L : List Sn) (t : Tp) (h : it (pn (s, 0)).2 j = some (L, t)) => it_len h)
  have I0 := Lib.hid (show it (pn (s, 0)).2 0 = some ([], (pn (s, 0)).2) from rfl)
  have h32' : (pn (s, 0)).1 ≤ 32 := by omega
  clear hpn hsz h32
  generalize hQ : Rdr w (rdT s) = Q at *
  clear hQ
  generalize (pn (s, 0)).1 = n at *
  generalize (pn (s, 0)).2 = t1 at *
  have h32I : (n : Int) ≤ 32 := by omega
  have wn : wrap64 (n : Int) = (n : Int) := by unfold wrap64; omega
  go_enter Try.func24, Try.ntmps24
  go_wp2_with fail
  refine R1.out.mono ?_
  rintro e w1 ⟨rfl, b1⟩
  have D0 : Hid (Ds w ((w1.alloc (.cells #[.string t1.1, .int .i64 t1.2] 73)).alloc (.cells #[.slice none 0 0] 27)) w1.heap.size (w1.heap.size + 1) t1 (.slice none 0 0) []) := by
    have k2 := K0.out.next b1
    have h1 : w.heap.size < w1.heap.size := k2.lt
    have bb := B0.out.trans (b1.mono (by simp))
    have a1 := (Below.refl w1.heap.size w1).alloc (Nat.le_refl _) (.cells #[.string t1.1, .int .i64 t1.2] 73)
    have a2 := (Below.refl (w1.alloc (.cells #[.string t1.1, .int .i64 t1.2] 73)).heap.size (w1.alloc (.cells #[.string t1.1, .int .i64 t1.2] 73))).alloc (Nat.le_refl _) (.cells #[.slice none 0 0] 27)
    have k6 := Blk.new (w1.alloc (.cells #[.string t1.1, .int .i64 t1.2] 73)) 27 #[.slice none 0 0]
    rw [World.size_alloc] at k6
    have bb2 := bb.trans (a1.mono (by omega))
    exact Lib.hid ⟨(k2.next a1).next a2, (Blk.new w1 73 _).next a2, k6, World.ownsRow_nil _ _ _ _, h1, by omega, bb2.trans (a2.mono bb2.size)⟩
  clear b1 K0 B0
  go_wp2_with fail
  generalize (w1.alloc (.cells #[.string t1.1, .int .i64 t1.2] 73)).alloc (.cells #[.slice none 0 0] 27) = w2 at *
  generalize hb6 : w1.heap.size + 1 = b6 at *
  generalize w1.heap.size = b4 at *
  go_loopw [7] (fun i wq => ∃ (j : Nat) (L : List Sn) (t : Tp) (v : Value), i = .int .i64 j ∧ j ≤ n ∧ Hid (it t1 j = some (L, t)) ∧ Hid (Ds w wq b4 b6 t v L)) (fun i _ => n - (intOf i).toNat)
  case atStart => exact ⟨0, [], t1, _, rfl, Nat.zero_le _, I0, D0⟩
  case round =>
    obtain ⟨j, L, t, v, rfl, hj, hI, D⟩ := hrel
    have c40 : wr.cell? ⟨b4, 0, none⟩ = some (.string t.1) := D.out.k4.cell 0
    have c41 : wr.cell? ⟨b4, 1, none⟩ = some (.int .i64 t.2) := D.out.k4.cell 1
    by_cases hjn : j < n
    · have hjI : (j : Int) < (n : Int) := by omega
      have z1 := Lib.hid (SZ.out _ _ _ hI.out)
      have z2 := Lib.hid (Nat.le_trans (pn_le t) z1.out)
      have A1 := pn_lt t
      have A2 := pn_lt (pn t).2
      have ok := OK.out j (by omega) _ _ hI.out
      have ln := LEN.out _ _ _ hI.out
      have l0 := last_nn ok
      have S := STP.out _ _ _ hI.out
      unfold stp at S
      simp only at S
      have NN1 := Lib.hid (rn_any t z1.out)
      have NN2 := Lib.hid (rn_any (pn t).2 z2.out)
      generalize (pn (pn t).2).1 = B at *
      generalize (pn (pn t).2).2 = t3 at *
      generalize (pn t).1 = A at *
      generalize (pn t).2 = t2 at *
      have HS := Lib.hid S
      have HOK := Lib.hid ok
      clear S z1 z2 ok
      go_wp2_with fail
      refine (NN1.out _).mono ?_
      rintro e w5 ⟨rfl, b5⟩
      have D5 := Lib.hid (D.out.next b5)
      clear b5 c40 c41
      go_wp2_with fail
      refine (NN2.out _).mono ?_
      rintro e w6 ⟨rfl, b6'⟩
      have D6 := Lib.hid ((D5.out.next ((Below.refl w5.heap.size w5).alloc (Nat.le_refl _) (.cells #[.string t2.1, .int .i64 t2.2] 73))).next b6')
      clear b6' D5 D
      have HA1 := Lib.hid A1
      have HA2 := Lib.hid A2
      clear A1 A2
      generalize hxA : (A : Int) = x at *
      generalize hyB : (B : Int) = y at *
      have HXA := Lib.hid hxA
      have HYB := Lib.hid hyB
      have x00 : 0 ≤ x := by omega
      have y00 : 0 ≤ y := by omega
      clear hxA hyB
      have HJ := Lib.hid (show j + 1 ≤ n by omega)
      have HM1 := Lib.hid (show L.length + 1 ≤ maxLen by unfold maxLen; omega)
      have HM2 := Lib.hid (show (L.length + 1) * 16 ≤ 140737488355328 by omega)
      have g40 : w6.cell? ⟨b4, 0, none⟩ = some (.string t.1) := D6.out.k4.cell 0
      have g41 : w6.cell? ⟨b4, 1, none⟩ = some (.int .i64 t.2) := D6.out.k4.cell 1
      have gf0 := D6.out.k4.free 0
      have gf1 := D6.out.k4.free 1
      have gl := D6.out.k4.lt
      have g20 : w6.cell? ⟨w.heap.size, 0, none⟩ = some (.slice none 0 0) := D6.out.k2.cell 0
      have g2f := D6.out.k2.free 0
      have g2l := D6.out.k2.lt
      have h24 := D6.out.h4
      have h46 := D6.out.h6
      have h24n : ¬ w.heap.size = b4 := by omega
      have h24m : ¬ b4 = w.heap.size := by omega
      have h46n : ¬ b4 = b6 := by omega
      have h46m : ¬ b6 = b4 := by omega
      have g60 : w6.cell? ⟨b6, 0, none⟩ = some v := D6.out.k6.cell 0
      have g6l := D6.out.k6.lt
      have HV := Lib.hid D6.out.own.form
      by_cases q1 : x < 1
      · have S : it t1 (j + 1) = none := by rw [HS.out, if_neg (fun h => by obtain ⟨p1, p2, p3, p4⟩ := h; have := HXA.out; have := HYB.out; omega)]
        have F := Lib.hid (fun W b => NO.out (j + 1) HJ.out S W b)
        obtain ⟨W9, hW9, z0, b9⟩ := D6.out.fail t3
        have b9 := Lib.hid b9
        have W9h := Lib.hid hW9
        have z0 := Lib.hid z0
        clear hW9 HS S NN1 NN2 HOK hI D6
        go_wp2_with fail
        rw [← W9h.out]
        have z0 := z0.out
        clear g40 g41 gf0 gf1 g20 g2f W9h
        refine bodyPost_ret (by simp [results, Try.results24, go_sem, z0]; try rfl) rfl ?_
        exact F.out _ b9.out
      have q1' : 1 ≤ x := by omega
      by_cases q2 : 549755813888 < x
      · have S : it t1 (j + 1) = none := by rw [HS.out, if_neg (fun h => by obtain ⟨p1, p2, p3, p4⟩ := h; have := HXA.out; have := HYB.out; omega)]
        have F := Lib.hid (fun W b => NO.out (j + 1) HJ.out S W b)
        obtain ⟨W9, hW9, z0, b9⟩ := D6.out.fail t3
        have b9 := Lib.hid b9
        have W9h := Lib.hid hW9
        have z0 := Lib.hid z0
        clear hW9 HS S NN1 NN2 HOK hI D6
        clear q1
        go_wp2_with fail
        rw [← W9h.out]
        have z0 := z0.out
        clear g40 g41 gf0 gf1 g20 g2f W9h
        refine bodyPost_ret (by simp [results, Try.results24, go_sem, z0]; try rfl) rfl ?_
        exact F.out _ b9.out
      have q2' : x ≤ 549755813888 := by omega
      by_cases q3 : 549755813888 < y
      · have S : it t1 (j + 1) = none := by rw [HS.out, if_neg (fun h => by obtain ⟨p1, p2, p3, p4⟩ := h; have := HXA.out; have := HYB.out; omega)]
        have F := Lib.hid (fun W b => NO.out (j + 1) HJ.out S W b)
        obtain ⟨W9, hW9, z0, b9⟩ := D6.out.fail t3
        have b9 := Lib.hid b9
        have W9h := Lib.hid hW9
        have z0 := Lib.hid z0
        clear hW9 HS S NN1 NN2 HOK hI D6
        clear q1 q2
        go_wp2_with fail
        rw [← W9h.out]
        have z0 := z0.out
        clear g40 g41 gf0 gf1 g20 g2f W9h
        refine bodyPost_ret (by simp [results, Try.results24, go_sem, z0]; try rfl) rfl ?_
        exact F.out _ b9.out
      have q3' : y ≤ 549755813888 := by omega
      have wA : wrap64 x = x := om_x x00 q2'
      have wB : wrap64 y = y := om_x y00 q3'
      clear q1 q2 q3
      by_cases j0 : j = 0
      · have L0 : L = [] := List.length_eq_zero_iff.1 (by omega)
        have l00 : lastN L = 0 := by rw [L0]; rfl
        have j0I : ¬ (0 : Int) < (j : Int) := by omega
        have j0B : decide ((0 : Int) < (j : Int)) = false := decide_eq_false j0I
        have q5' : lastN L < x := by rw [l00]; exact Int.lt_of_lt_of_le Int.zero_lt_one q1'
        clear L0
        have S := Lib.hid (show it t1 (j + 1) = some (L ++ [(x, y)], t3) by rw [HS.out, if_pos ⟨Int.ofNat_le.1 (by rw [HXA.out]; exact q1'), by rw [HXA.out]; exact q2', by rw [HYB.out]; exact q3', by rw [HXA.out]; exact q5'⟩])
        obtain ⟨W8, hW8⟩ : ∃ W8, W8 = (((w6.setCell ⟨b4, 0, none⟩ (.string t3.1)).setCell ⟨b4, 1, none⟩ (.int .i64 t3.2)).alloc (.cells #[.string t3.1, .int .i64 t3.2] 73)).alloc (.cells (enc (x, y)).toArray 58) := ⟨_, rfl⟩
        have D8 : Hid (Ds w W8 b4 b6 t3 v L) := Lib.hid (by rw [hW8]; exact ((D6.out.tape t3).next ((Below.refl _ _).alloc (Nat.le_refl _) _)).next ((Below.refl _ _).alloc (Nat.le_refl _) _))
        have O8 := Lib.hid D8.out.own
        unfold OwnR at O8
        have K8 := Blk.new (((w6.setCell ⟨b4, 0, none⟩ (.string t3.1)).setCell ⟨b4, 1, none⟩ (.int .i64 t3.2)).alloc (.cells #[.string t3.1, .int .i64 t3.2] 73)) 58 (enc (x, y)).toArray
        rw [← hW8, World.size_alloc, World.size_setCell, World.size_setCell] at K8
        have N8 := Lib.hid (enc_at58 (x := (x, y)) K8)
        clear K8
        have W8h := Lib.hid hW8
        unfold enc at W8h
        clear hW8
        have E1 := Lib.hid (enc_one (x, y))
        have sz8 := Lib.hid D8.out.k6.lt
        have FIN := Lib.hid (fun v' (w9 : World) (ho : w9.ownsRow (b6 + 1) 58 2 v' (L.length + 1) (cells L ++ enc (x, y))) (hg : W8.grownBy w9 v.ownBlock) => show Ds w (w9.setCell ⟨b6, 0, none⟩ v') b4 b6 t3 v' (L ++ [(x, y)]) ∧ Blk w9 b6 27 #[v] from ⟨D8.out.push ho hg, D8.out.k6.fr ((Fr.of_grown hg).mono (Q := fun q => v.ownBlock = some q) (fun q _ e => e.symm)) (fun e => by have := (ownr_ne D8.out.own _ e).1; omega)⟩)
        have FORM := Lib.hid (fun v' (w9 : World) (h : Ds w (w9.setCell ⟨b6, 0, none⟩ v') b4 b6 t3 v' (L ++ [(x, y)])) => h.own.form)
        clear HS NN1 NN2 HOK hI D6 ln D8
        obtain ⟨av, cv, hv⟩ := HV.out
        subst hv
        go_wp2_with (at_builtin; rw [← W8h.out]; refine wpList_append_own _ rfl _ _ 25 rfl (b6 + 1) 58 i0 _ 2 16 Try.underlying25 hi hz0 hz1 hz2 rfl (by decide) (.slice av L.length cv) L.length (cells L) rfl O8.out ⟨w6.heap.size + 1, 0, none⟩ 1 1 (enc (x, y)) rfl rfl N8.out E1.out HM1.out HM2.out sz8.out ?_; intro v' w9 ho hg _; have D9 := Lib.hid (FIN.out v' w9 ho hg); have c9 : w9.cell? ⟨b6, 0, none⟩ = some (.slice av L.length cv) := D9.out.2.cell 0; have f9 := D9.out.2.free 0; have DD := Lib.hid D9.out.1; clear ho hg D9; obtain ⟨a9, d9, hv9⟩ := FORM.out _ _ DD.out; generalize (L ++ [(x, y)]).length = m9 at hv9; subst hv9)
        go_roundw
        case rel => exact ⟨j + 1, _, t3, _, by go_num, HJ.out, S, DD⟩
        case measure => first | exact om_m HJ.out | (have hj9 := HJ.out; simp [intOf]; omega)
      have j0I : (0 : Int) < (j : Int) := om_0 j0
      obtain ⟨k, hk⟩ : ∃ k, j = k + 1 := ⟨j - 1, om_s j0⟩
      have hkL : k < L.length := om_k hk ln
      obtain ⟨g, c6, hv6, e6⟩ := D6.out.own.at_ hkL
      have lk : lastN L = L[k].1 := by rw [lastN_get (Nat.lt_of_le_of_lt (Nat.zero_le k) hkL)]; congr 2; exact om_l hk ln
      rw [← lk] at e6
      have HLK := Lib.hid lk
      clear lk
      have wj : wrap64 ((j : Int) - 1) = (j : Int) - 1 := om_w hk hj h32'
      have tj : ((j : Int) - 1).toNat = k := om_t hk
      have j1 : (0 : Int) ≤ (j : Int) - 1 := om_1 hk
      have j2 : (j : Int) - 1 < (L.length : Int) := om_2 hk ln
      have j3 : k < L.length := hkL
      have hgne : ¬ g = b4 := by
        have h0 := (ownr_ne D6.out.own g (by rw [hv6]; rfl)).1
        exact om_g h0 h46
      have hgne2 : ¬ b4 = g := fun e => hgne e.symm
      have hgl : g < w6.heap.size := (ownr_ne D6.out.own g (by rw [hv6]; rfl)).2
      by_cases q5 : x ≤ lastN L
      · have S : it t1 (j + 1) = none := by rw [HS.out, if_neg (fun h => by obtain ⟨p1, p2, p3, p4⟩ := h; have := HXA.out; have := HYB.out; omega)]
        have F := Lib.hid (fun W b => NO.out (j + 1) HJ.out S W b)
        obtain ⟨W9, hW9, z0, b9⟩ := D6.out.fail t3
        have b9 := Lib.hid b9
        have W9h := Lib.hid hW9
        have z0 := Lib.hid z0
        clear hW9 HS S NN1 NN2 HOK hI D6
        clear hk
        subst hv6
        generalize lastN L = lt at *
        go_wp2_with fail
        rw [← W9h.out]
        have z0 := z0.out
        clear g40 g41 gf0 gf1 g20 g2f W9h
        refine bodyPost_ret (by simp [results, Try.results24, go_sem, z0]; try rfl) rfl ?_
        exact F.out _ b9.out
      have q5' : lastN L < x := Int.not_le.1 q5
      have S := Lib.hid (show it t1 (j + 1) = some (L ++ [(x, y)], t3) by rw [HS.out, if_pos ⟨Int.ofNat_le.1 (by rw [HXA.out]; exact q1'), by rw [HXA.out]; exact q2', by rw [HYB.out]; exact q3', by rw [HXA.out]; exact q5'⟩])
      obtain ⟨W8, hW8⟩ : ∃ W8, W8 = (((w6.setCell ⟨b4, 0, none⟩ (.string t3.1)).setCell ⟨b4, 1, none⟩ (.int .i64 t3.2)).alloc (.cells #[.string t3.1, .int .i64 t3.2] 73)).alloc (.cells (enc (x, y)).toArray 58) := ⟨_, rfl⟩
      have D8 : Hid (Ds w W8 b4 b6 t3 v L) := Lib.hid (by rw [hW8]; exact ((D6.out.tape t3).next ((Below.refl _ _).alloc (Nat.le_refl _) _)).next ((Below.refl _ _).alloc (Nat.le_refl _) _))
      have O8 := Lib.hid D8.out.own
      unfold OwnR at O8
      have K8 := Blk.new (((w6.setCell ⟨b4, 0, none⟩ (.string t3.1)).setCell ⟨b4, 1, none⟩ (.int .i64 t3.2)).alloc (.cells #[.string t3.1, .int .i64 t3.2] 73)) 58 (enc (x, y)).toArray
      rw [← hW8, World.size_alloc, World.size_setCell, World.size_setCell] at K8
      have N8 := Lib.hid (enc_at58 (x := (x, y)) K8)
      clear K8
      have W8h := Lib.hid hW8
      unfold enc at W8h
      clear hW8
      have E1 := Lib.hid (enc_one (x, y))
      have sz8 := Lib.hid D8.out.k6.lt
      have FIN := Lib.hid (fun v' (w9 : World) (ho : w9.ownsRow (b6 + 1) 58 2 v' (L.length + 1) (cells L ++ enc (x, y))) (hg : W8.grownBy w9 v.ownBlock) => show Ds w (w9.setCell ⟨b6, 0, none⟩ v') b4 b6 t3 v' (L ++ [(x, y)]) ∧ Blk w9 b6 27 #[v] from ⟨D8.out.push ho hg, D8.out.k6.fr ((Fr.of_grown hg).mono (Q := fun q => v.ownBlock = some q) (fun q _ e => e.symm)) (fun e => by have := (ownr_ne D8.out.own _ e).1; omega)⟩)
      have FORM := Lib.hid (fun v' (w9 : World) (h : Ds w (w9.setCell ⟨b6, 0, none⟩ v') b4 b6 t3 v' (L ++ [(x, y)])) => h.own.form)
      clear HS NN1 NN2 HOK hI D6 ln D8
      clear hk HV q5
      subst hv6
      generalize lastN L = lt at *
      go_wp2_with (at_builtin; rw [← W8h.out]; refine wpList_append_own _ rfl _ _ 25 rfl (b6 + 1) 58 i0 _ 2 16 Try.underlying25 hi hz0 hz1 hz2 rfl (by decide) (.slice (some ⟨g, 0, none⟩) L.length c6) L.length (cells L) rfl O8.out ⟨w6.heap.size + 1, 0, none⟩ 1 1 (enc (x, y)) rfl rfl N8.out E1.out HM1.out HM2.out sz8.out ?_; intro v' w9 ho hg _; have D9 := Lib.hid (FIN.out v' w9 ho hg); have c9 : w9.cell? ⟨b6, 0, none⟩ = some (.slice (some ⟨g, 0, none⟩) L.length c6) := D9.out.2.cell 0; have f9 := D9.out.2.free 0; have DD := Lib.hid D9.out.1; clear ho hg D9; obtain ⟨a9, d9, hv9⟩ := FORM.out _ _ DD.out; generalize (L ++ [(x, y)]).length = m9 at hv9; subst hv9)
      go_roundw
      case rel => exact ⟨j + 1, _, t3, _, by go_num, HJ.out, S, DD⟩
      case measure => first | exact om_m HJ.out | (have hj9 := HJ.out; simp [intOf]; omega)
    · obtain rfl : j = n := by omega
      have hjI : ¬ (j : Int) < (j : Int) := by omega
      have EA := Lib.hid (rend_any t.1 t.2)
      have HDh := Lib.hid D.out
      obtain ⟨av, cv, hv⟩ := D.out.own.form
      clear D
      by_cases he : Bt.endE t.1 t.2 = 0
      · have F := Lib.hid (YES.out L t hI.out he v)
        rw [he] at EA
        clear hI he
        go_wp2_with fail
        refine (EA.out _).mono ?_
        rintro e w5 ⟨rfl, b5⟩
        have D5 := Lib.hid (HDh.out.next b5)
        have c2 : w5.cell? ⟨w.heap.size, 0, none⟩ = some (.slice none 0 0) := D5.out.k2.cell 0
        have f2 := D5.out.k2.free 0
        have c6 : w5.cell? ⟨b6, 0, none⟩ = some v := D5.out.k6.cell 0
        clear b5 c40 c41 HDh
        subst hv
        go_wp2_with fail
        obtain ⟨W, hW⟩ : ∃ W, W = w5.setCell ⟨w.heap.size, 0, none⟩ (.slice av L.length cv) := ⟨_, rfl⟩
        have z0 : W.cell? ⟨w.heap.size, 0, none⟩ = some (.slice av L.length cv) := by rw [hW]; exact (D5.out.k2.set 0 _).cell 0
        have OW : OwnR W w.heap.size (.slice av L.length cv) L := by
          rw [hW]
          have h4 := D5.out.h4
          have h6 := D5.out.h6
          exact OwnR.le (Fr.own D5.out.own (fr_set w5 w.heap.size 0 _) (fun q hq e => by have := (ownr_ne D5.out.own q hq).1; omega)) (by omega)
        have BW : Below w.heap.size w W := by rw [hW]; exact D5.out.bel.setCell (p := ⟨w.heap.size, 0, none⟩) (Nat.le_refl _) _
        rw [← hW]
        clear hW c2 f2 c6 D5
        refine bodyPost_ret (by simp [results, Try.results24, go_sem, z0]; try rfl) rfl ?_
        exact F.out W OW BW
      · have F := Lib.hid (BAD.out L t hI.out he)
        have hb : (Bt.endE t.1 t.2 != 0) = true := by simpa using he
        generalize Bt.endE t.1 t.2 = E at *
        clear hI he
        go_wp2_with fail
        refine (EA.out _).mono ?_
        rintro e w5 ⟨rfl, b5⟩
        have D5 := Lib.hid (HDh.out.next b5)
        have c2 : w5.cell? ⟨w.heap.size, 0, none⟩ = some (.slice none 0 0) := D5.out.k2.cell 0
        have f2 := D5.out.k2.free 0
        clear b5 c40 c41 HDh
        go_wp2_with fail
        obtain ⟨W, hW⟩ : ∃ W, W = w5.setCell ⟨w.heap.size, 0, none⟩ (.slice none 0 0) := ⟨_, rfl⟩
        have z0 : W.cell? ⟨w.heap.size, 0, none⟩ = some (.slice none 0 0) := by rw [hW]; exact (D5.out.k2.set 0 _).cell 0
        have BW : Below w.heap.size w W := by rw [hW]; exact D5.out.bel.setCell (p := ⟨w.heap.size, 0, none⟩) (Nat.le_refl _) _
        rw [← hW]
        clear hW c2 f2 D5
        refine bodyPost_ret (by simp [results, Try.results24, go_sem, z0]; try rfl) rfl ?_
        exact F.out W BW
end Go.Proofs.Ytkaocpfkigdpoaa
