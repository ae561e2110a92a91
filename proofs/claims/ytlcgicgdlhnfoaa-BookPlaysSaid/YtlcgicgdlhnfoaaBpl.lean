/-
  BookPlays as a walk.
-/
import Derived.Test.YtlcgicgdlhnfoaaBpr
namespace Go.Proofs.Ytlcgicgdlhnfoaa
open Go.RowKit
set_option maxHeartbeats 16000000 in
set_option maxRecDepth 100000 in
theorem plays_law (s0 : Option Addr) (c0 : Nat) (L : List Ac) (w : World) (hl : L.length ≤ 9223372036854775807) (hA : Acs w s0 L) :
    Calls Try.prog 3 #[.slice s0 L.length c0] w fun e w' => e = .returned (.bool true) ∧ Below w.heap.size w w' := by
  have N := Lib.hid (new_any w)
  have AW := Lib.hid awake_any
  have ARG := Lib.hid (fun (i : Nat) (hi : i < L.length) W (h : Below w.heap.size w W) => show ∃ g o q c, s0 = some ⟨g, o, none⟩ ∧ W.cell? ⟨g, o + i * 4, none⟩ = some (.int .i64 L[i].k) ∧ W.cell? ⟨g, o + i * 4 + 1, none⟩ = some (.int .i64 L[i].a) ∧ W.cell? ⟨g, o + i * 4 + 2, none⟩ = some (.int .i64 L[i].b) ∧ W.cell? ⟨g, o + i * 4 + 3, none⟩ = some (.slice q L[i].p.length c) ∧ Nums w q L[i].p ∧ L[i].okA from by
    obtain ⟨g, o, q, c, e, hg, k0, k1, k2, k3, nn, ok⟩ := hA i hi
    exact ⟨g, o, q, c, e, (h.cell (p := ⟨g, _, none⟩) hg).trans k0, (h.cell (p := ⟨g, _, none⟩) hg).trans k1, (h.cell (p := ⟨g, _, none⟩) hg).trans k2, (h.cell (p := ⟨g, _, none⟩) hg).trans k3, nn, ok⟩)
  obtain ⟨i3, hi, hz0, hz1, hz2⟩ := info_parts info3
  have hlI : (L.length : Int) ≤ 9223372036854775807 := by omega
  clear hA
  go_enter Try.func3, Try.ntmps3
  go_wp2_with fail
  refine N.out.mono ?_
  rintro e w1 ⟨rfl, T1, b1⟩
  obtain ⟨W1, hW1⟩ : ∃ W1, W1 = w1.alloc (.cells #[.int .i64 0, .slice none 0 0] 27) := ⟨_, rfl⟩
  have M1 := Lib.hid (ps_start T1 b1)
  rw [← hW1] at M1
  have HW1 := Lib.hid hW1
  clear T1 b1 hW1 N
  go_wp2_with fail
  rw [← HW1.out]
  refine (AW.out _).mono ?_
  rintro e w2 ⟨rfl, b2⟩
  have M2 := Lib.hid (M1.out.next b2)
  clear b2 M1 AW HW1
  generalize w1.heap.size = X at *
  go_wp2_with fail
  go_loopw [3, 5] (fun b i wr => ∃ (t j : Nat) (base : Int) (LL : List (List Int)) (a : Option Addr) (c : Nat), b = .pointer (some ⟨t, 0, none⟩) ∧ i = .int .i64 j ∧ j ≤ L.length ∧ j ≤ 150 ∧ Hid (PS w X t base LL a c wr)) (fun _ i _ => L.length - (intOf i).toNat)
  case atStart => exact ⟨w.heap.size, 0, 0, [], none, 0, rfl, rfl, Nat.zero_le _, by decide, M2⟩
  case round =>
    obtain ⟨t, j, base, LL, a, c, rfl, rfl, hj, hj2, hM⟩ := hrel
    clear M2
    by_cases hjl : j < L.length
    rotate_left
    · have hjI : ¬ (j : Int) < (L.length : Int) := by omega
      have hjB := decide_eq_false hjI
      have F := Lib.hid hM.out.bel
      clear hM ARG
      go_wp2_with fail
      go_ret
      exact ⟨rfl, F.out⟩
    have hjI : (j : Int) < (L.length : Int) := by omega
    have hjB := decide_eq_true hjI
    by_cases hj150 : j < 150
    rotate_left
    · have hkI : ¬ (j : Int) < 150 := by omega
      have hkB := decide_eq_false hkI
      have F := Lib.hid hM.out.bel
      clear hM ARG
      go_wp2_with fail
      go_ret
      exact ⟨rfl, F.out⟩
    have hkI : (j : Int) < 150 := by omega
    have hkB := decide_eq_true hkI
    obtain ⟨g, o, q, cq, rfl, k0, k1, k2, k3, nq, okA⟩ := ARG.out j hjl wr hM.out.bel
    have OK := Lib.hid okA
    have NQ := Lib.hid nq
    have QB : Hid (∀ p, q = some p → L[j].p.length = 0 ∨ p.block < w.heap.size) := Lib.hid fun p hp => by
      by_cases h0 : L[j].p.length = 0
      · exact .inl h0
      · obtain ⟨g', o', e1, hg', _⟩ := nq 0 (by omega)
        rw [hp] at e1
        simp only [Option.some.injEq] at e1
        rw [e1]
        exact .inr hg'
    clear ARG okA nq
    generalize L[j] = Xc at *
    obtain ⟨xk, xa, xb, xp⟩ := Xc
    simp only at k0 k1 k2 k3 OK NQ QB
    obtain ⟨W6, hW6⟩ : ∃ W6, W6 = wr.alloc (.cells #[.int .i64 xk, .int .i64 xa, .int .i64 xb, .slice q xp.length cq] 31) := ⟨_, rfl⟩
    have b6 : Below wr.heap.size wr W6 := by rw [hW6]; exact BN1 _ _
    have K6 : Hid (Blk W6 wr.heap.size 31 #[.int .i64 xk, .int .i64 xa, .int .i64 xb, .slice q xp.length cq]) := Lib.hid (by rw [hW6]; exact Blk.new _ _ _)
    have M6 := Lib.hid (hM.out.next b6)
    have XW : Hid (X < wr.heap.size) := Lib.hid hM.out.xlt
    have HW6 := Lib.hid hW6
    have hW6s : W6.heap.size = wr.heap.size + 1 := by rw [hW6]; simp
    clear hM b6 hW6
    have x0 : W6.cell? ⟨wr.heap.size, 0, none⟩ = some (.int .i64 xk) := K6.out.cell 0
    have x1 : W6.cell? ⟨wr.heap.size, 1, none⟩ = some (.int .i64 xa) := K6.out.cell 1
    have x2 : W6.cell? ⟨wr.heap.size, 2, none⟩ = some (.int .i64 xb) := K6.out.cell 2
    have x3 : W6.cell? ⟨wr.heap.size, 3, none⟩ = some (.slice q xp.length cq) := K6.out.cell 3
    by_cases hn : 100 < xp.length
    · have hnI : (100 : Int) < (xp.length : Int) := by omega
      have hnB := decide_eq_true hnI
      go_wp2_with (rw [← HW6.out])
      go_roundw
      case rel => exact ⟨t, j + 1, base, LL, a, c, rfl, by go_num, by omega, by omega, M6⟩
      case measure => simp [intOf]; omega
    have hnI : ¬ (100 : Int) < (xp.length : Int) := by omega
    have hnB := decide_eq_false hnI
    by_cases hk0 : xk = 0
    · subst hk0
      clear hW6s x1 x2
      have XW2 : Hid (X < W6.heap.size) := Lib.hid (by have := XW.out; rw [HW6.out]; simp; omega)
      have b7 : ∀ W7, W7 = W6.alloc (.cells #[] 3) → Below W6.heap.size W6 W7 := fun W7 h => by rw [h]; exact BN1 _ _
      by_cases he : xp.length = 0
      · obtain rfl : xp = [] := List.eq_nil_of_length_eq_zero he
        clear he hn hnI hnB
        have hxp : ([] : List Int).length ≤ 1000 := by decide
        have hnB : decide ((100 : Int) < ((0 : Nat) : Int)) = false := by decide
        have NP8 : Hid (Nums (W6.alloc (.cells #[] 3)) (some ⟨W6.heap.size, 0, none⟩) []) := Lib.hid (fun i hi => by simp at hi)
        have PK8 : Hid (Pk W6.heap.size (W6.alloc (.cells #[] 3)).heap.size (W6.alloc (.cells #[] 3)) (some ⟨W6.heap.size, 0, none⟩) 0) := Lib.hid (fun k hk => by omega)
        have PB : Hid (∀ pp, (some ⟨W6.heap.size, 0, none⟩ : Option Addr) = some pp → W6.heap.size ≤ pp.block) := Lib.hid (fun pp h => by cases h; exact Nat.le_refl _)
        have PT : Hid (Calls Try.prog 10 #[.agg #[.int .i64 base, .slice a LL.length c], .slice q 0 cq] (W6.alloc (.cells #[] 3)) (fun e w3 => PC w X t base LL (ptS base LL []).1 (ptS base LL []).2 (ptE base LL []) a c W6.heap.size (W6.alloc (.cells #[] 3)).heap.size e w3 ∧ Below (W6.alloc (.cells #[] 3)).heap.size (W6.alloc (.cells #[] 3)) w3)) := Lib.hid (M6.out.put0 (xs := []) cq (b7 _ rfl) (fun i hi => by simp at hi) (fun p hp => .inl rfl) hxp)
        have z0 := (M6.out.next (b7 _ rfl)).c0
        have z1 := (M6.out.next (b7 _ rfl)).c1
        have x38 : (W6.alloc (.cells #[] 3)).cell? ⟨wr.heap.size, 3, none⟩ = some (.slice q 0 cq) := (K6.out.next (b7 _ rfl)).cell 3
        have x3 : W6.cell? ⟨wr.heap.size, 3, none⟩ = some (.slice q 0 cq) := x3
        have k3 : wr.cell? ⟨g, o + j * 4 + 3, none⟩ = some (.slice q 0 cq) := k3
        have HW6 : Hid (W6 = wr.alloc (.cells #[.int .i64 0, .int .i64 xa, .int .i64 xb, .slice q 0 cq] 31)) := HW6
        clear b7 NQ QB M6
        cases q with
        | none =>
          go_wp2_with (rw [← HW6.out])
          clear x3 k3 HW6 k0 k1 k2 x0
          obtain ⟨p, hp⟩ : ∃ p : Option Addr, p = some ⟨W6.heap.size, 0, none⟩ := ⟨_, rfl⟩
          rw [← hp] at NP8 PK8 PB ⊢
          clear hp
          generalize W6.alloc (.cells #[] 3) = w8 at *
          refine PT.out.mono ?_
          rintro e w9 ⟨⟨a', c', rfl, kX, st⟩, b9⟩
          have ST := Lib.hid st
          have z0 := kX.cell 0
          have z1 := kX.cell 1
          have e0 := kX.free 0
          have e1 := kX.free 1
          have PK9 := Lib.hid (PK8.out.next b9)
          have NP9 := Lib.hid (Nums.next NP8.out b9)
          clear PT st kX b9 PK8 NP8 K6
          obtain ⟨w10, hw10⟩ : ∃ w10, w10 = (w9.setCell ⟨X, 0, none⟩ (.int .i64 (ptS base LL []).1)).setCell ⟨X, 1, none⟩ (.slice a' (ptS base LL []).2.length c') := ⟨_, rfl⟩
          obtain ⟨pq, f10⟩ := ST.out w10 hw10
          have PK10 := Lib.hid (PK9.out.fr f10 (fun q h h' e => by have := XW2.out; omega))
          have NP10 := Nums.fr NP9.out f10 (fun pp hp e => by have := PB.out pp hp; have := XW2.out; omega)
          have PT2 := Lib.hid (pq.put (cp := 0) NP10 hxp)
          have HW10 := Lib.hid hw10
          clear pq f10 NP10 hw10 ST PK9 NP9
          go_wp2_with (rw [← HW10.out])
          refine PT2.out.mono ?_
          rintro e w11 ⟨rfl, f11, fin⟩
          have PK11 := Lib.hid (PK10.out.fr f11 (fun q h h' hh => hh ⟨h, h'⟩))
          have FN := Lib.hid fin
          clear f11 fin PT2 PK10 HW10 z0 z1 e0 e1
          generalize ptE base LL [] = ee at *
          generalize (ptS base LL []).1 = base2 at *
          generalize (ptS base LL []).2 = LL2 at *
          go_wp2_with fail
          go_loopw [10] (fun kk wl => ∃ k : Nat, kk = .int .i64 k ∧ k ≤ 0 ∧ Hid (Fr w11 wl (fun q => W6.heap.size ≤ q ∧ q < w8.heap.size)) ∧ Hid (Pk W6.heap.size w8.heap.size wl p 0)) (fun kk _ => 0 - (intOf kk).toNat)
          case atStart => exact ⟨0, rfl, Nat.zero_le _, Lib.hid (Fr.refl _ _), PK11⟩
          case round =>
            obtain ⟨k, rfl, hk, FL, PL⟩ := hrel
            clear PK11
            by_cases hkm : k < 0
            · omega
            · have hkmI : ¬ (k : Int) < ((0 : Nat) : Int) := by omega
              have hkmB := decide_eq_false hkmI
              have MQ := Lib.hid (FN.out wr FL.out)
              clear FL PL FN
              have SQ := Lib.hid MQ.out.same
              have y0 := MQ.out.c0
              have y1 := MQ.out.c1
              go_wp2_with fail
              refine SQ.out.mono ?_
              rintro e w12 ⟨rfl, m12⟩
              have M12 := Lib.hid m12
              clear m12 SQ y0 y1 MQ
              go_wp2_with fail
              go_roundw
              case rel => exact ⟨t, j + 1, base2, LL2, a', c', rfl, by go_num, by omega, by omega, M12⟩
              case measure => simp [intOf]; omega
        | some ad =>
          go_wp2_with (rw [← HW6.out])
          clear x3 k3 HW6 k0 k1 k2 x0
          obtain ⟨p, hp⟩ : ∃ p : Option Addr, p = some ⟨W6.heap.size, 0, none⟩ := ⟨_, rfl⟩
          rw [← hp] at NP8 PK8 PB ⊢
          clear hp
          generalize W6.alloc (.cells #[] 3) = w8 at *
          refine PT.out.mono ?_
          rintro e w9 ⟨⟨a', c', rfl, kX, st⟩, b9⟩
          have ST := Lib.hid st
          have z0 := kX.cell 0
          have z1 := kX.cell 1
          have e0 := kX.free 0
          have e1 := kX.free 1
          have PK9 := Lib.hid (PK8.out.next b9)
          have NP9 := Lib.hid (Nums.next NP8.out b9)
          clear PT st kX b9 PK8 NP8 K6
          obtain ⟨w10, hw10⟩ : ∃ w10, w10 = (w9.setCell ⟨X, 0, none⟩ (.int .i64 (ptS base LL []).1)).setCell ⟨X, 1, none⟩ (.slice a' (ptS base LL []).2.length c') := ⟨_, rfl⟩
          obtain ⟨pq, f10⟩ := ST.out w10 hw10
          have PK10 := Lib.hid (PK9.out.fr f10 (fun q h h' e => by have := XW2.out; omega))
          have NP10 := Nums.fr NP9.out f10 (fun pp hp e => by have := PB.out pp hp; have := XW2.out; omega)
          have PT2 := Lib.hid (pq.put (cp := 0) NP10 hxp)
          have HW10 := Lib.hid hw10
          clear pq f10 NP10 hw10 ST PK9 NP9
          go_wp2_with (rw [← HW10.out])
          refine PT2.out.mono ?_
          rintro e w11 ⟨rfl, f11, fin⟩
          have PK11 := Lib.hid (PK10.out.fr f11 (fun q h h' hh => hh ⟨h, h'⟩))
          have FN := Lib.hid fin
          clear f11 fin PT2 PK10 HW10 z0 z1 e0 e1
          generalize ptE base LL [] = ee at *
          generalize (ptS base LL []).1 = base2 at *
          generalize (ptS base LL []).2 = LL2 at *
          go_wp2_with fail
          go_loopw [10] (fun kk wl => ∃ k : Nat, kk = .int .i64 k ∧ k ≤ 0 ∧ Hid (Fr w11 wl (fun q => W6.heap.size ≤ q ∧ q < w8.heap.size)) ∧ Hid (Pk W6.heap.size w8.heap.size wl p 0)) (fun kk _ => 0 - (intOf kk).toNat)
          case atStart => exact ⟨0, rfl, Nat.zero_le _, Lib.hid (Fr.refl _ _), PK11⟩
          case round =>
            obtain ⟨k, rfl, hk, FL, PL⟩ := hrel
            clear PK11
            by_cases hkm : k < 0
            · omega
            · have hkmI : ¬ (k : Int) < ((0 : Nat) : Int) := by omega
              have hkmB := decide_eq_false hkmI
              have MQ := Lib.hid (FN.out wr FL.out)
              clear FL PL FN
              have SQ := Lib.hid MQ.out.same
              have y0 := MQ.out.c0
              have y1 := MQ.out.c1
              go_wp2_with fail
              refine SQ.out.mono ?_
              rintro e w12 ⟨rfl, m12⟩
              have M12 := Lib.hid m12
              clear m12 SQ y0 y1 MQ
              go_wp2_with fail
              go_roundw
              case rel => exact ⟨t, j + 1, base2, LL2, a', c', rfl, by go_num, by omega, by omega, M12⟩
              case measure => simp [intOf]; omega
      have hxp : xp.length ≤ 1000 := by omega
      obtain ⟨g9, o9, rfl, -, -⟩ := NQ.out 0 (by omega)
      obtain ⟨W7, hW7⟩ : ∃ W7, W7 = W6.alloc (.cells #[] 3) := ⟨_, rfl⟩
      have O7 : Hid (W7.ownsRow W6.heap.size 3 1 (.slice (some ⟨W6.heap.size, 0, none⟩) 0 0) 0 []) := Lib.hid (by rw [hW7]; exact World.ownsRow_made W6 #[] 0 (Nat.le_refl _) (Nat.zero_le _) rfl)
      have B7 := Lib.hid (b7 W7 hW7)
      have bw7 : Below w.heap.size w W7 := M6.out.bel.trans (B7.out.mono M6.out.bel.size)
      have x37 : (W6.alloc (.cells #[] 3)).cell? ⟨wr.heap.size, 3, none⟩ = some (.slice (some ⟨g9, o9, none⟩) xp.length cq) := (K6.out.next (b7 _ rfl)).cell 3
      have n7 := Nums.next NQ.out bw7
      have HW7 := Lib.hid hW7
      have hz : W7.heap.size = W6.heap.size + 1 := by rw [hW7]; simp
      have FIN : Hid (∀ v' w8, w8.ownsRow W6.heap.size 3 1 v' (0 + xp.length) ([] ++ xp.map (Value.int .i64)) → W7.grownBy w8 (Value.slice (some ⟨W6.heap.size, 0, none⟩) 0 0).ownBlock → OwnN w8 W6.heap.size v' xp ∧ Below W6.heap.size W6 w8) := Lib.hid fun v' w8 ho hg => by
        rw [Nat.zero_add, List.nil_append] at ho
        exact ⟨ho, B7.out.trans ⟨hg.os, hg.tape, hg.output, hg.size, fun q hq => hg.block q (Nat.lt_of_lt_of_le hq B7.out.size) (fun e => absurd (show q = W6.heap.size by simpa [Value.ownBlock] using e) (Nat.ne_of_lt hq))⟩⟩
      have N1 : Hid (∀ j u, (xp.map (Value.int .i64))[j]? = some u → W7.cell? ((⟨g9, o9, none⟩ : Addr).add j) = some u) := Lib.hid (by
        intro j u hj
        rw [List.getElem?_map] at hj
        obtain ⟨x, hx, rfl⟩ := Option.map_eq_some_iff.1 hj
        obtain ⟨hjl, rfl⟩ := List.getElem?_eq_some_iff.1 hx
        obtain ⟨g, o, e, hg, ck⟩ := n7 j hjl
        cases e
        rw [add_at]
        exact ck)
      have HL : Hid ((xp.map (Value.int .i64)).length = xp.length * 1) := Lib.hid (by simp)
      have H1 : Hid (∀ u ∈ xp.map (Value.int .i64), u.oneCell' = true) := Lib.hid (fun u hu => by obtain ⟨x, _, rfl⟩ := List.mem_map.1 hu; rfl)
      have MN := Lib.hid (fun w8 (b : Below W6.heap.size W6 w8) => show PS w X t base LL a c w8 from M6.out.next b)
      have PUT := Lib.hid (fun w8 (b : Below W6.heap.size W6 w8) => M6.out.put0 (xs := xp) cq b (Nums.next NQ.out (M6.out.bel.trans (b.mono M6.out.bel.size))) QB.out hxp)
      have hxp2 : xp.length ≤ 100 := by omega
      clear QB n7 bw7 hW7 b7 NQ M6
      go_wp2_with (first | (rw [← HW6.out]) | (at_builtin; rw [← HW7.out]; refine wpList_append_own _ rfl _ _ 29 rfl W6.heap.size 3 i3 _ 1 8 Try.underlying29 hi hz0 hz1 hz2 rfl (by decide) _ 0 [] rfl O7.out ⟨g9, o9, none⟩ xp.length cq _ rfl HL.out N1.out H1.out (by unfold maxLen; omega) (by omega) (by omega) ?_; intro v' w8 ho hg2 _; obtain ⟨ho8, hb8⟩ := FIN.out _ _ ho hg2; obtain ⟨p, cp, rfl, np8, pk8, pb8⟩ := pk_of ho8; have x38 : w8.cell? ⟨wr.heap.size, 3, none⟩ = some (.slice (some ⟨g9, o9, none⟩) xp.length cq) := (K6.out.next hb8).cell 3; have z0 := (MN.out _ hb8).c0; have z1 := (MN.out _ hb8).c1; have PT := Lib.hid (PUT.out _ hb8); have NP8 := Lib.hid np8; have PK8 := Lib.hid pk8; have PB := Lib.hid pb8; clear ho hg2 ho8 hb8 np8 pk8 pb8))
      clear FIN N1 HL H1 MN PUT O7 B7 HW7
      refine PT.out.mono ?_
      rintro e w9 ⟨⟨a', c', rfl, kX, st⟩, b9⟩
      have ST := Lib.hid st
      have z0 := kX.cell 0
      have z1 := kX.cell 1
      have e0 := kX.free 0
      have e1 := kX.free 1
      have PK9 := Lib.hid (PK8.out.next b9)
      have NP9 := Lib.hid (Nums.next NP8.out b9)
      clear PT st kX b9 PK8 NP8 K6
      obtain ⟨w10, hw10⟩ : ∃ w10, w10 = (w9.setCell ⟨X, 0, none⟩ (.int .i64 (ptS base LL xp).1)).setCell ⟨X, 1, none⟩ (.slice a' (ptS base LL xp).2.length c') := ⟨_, rfl⟩
      obtain ⟨pq, f10⟩ := ST.out w10 hw10
      have PK10 := Lib.hid (PK9.out.fr f10 (fun q h h' e => by have := XW2.out; omega))
      have NP10 := Nums.fr NP9.out f10 (fun pp hp e => by have := PB.out pp hp; have := XW2.out; omega)
      have PT2 := Lib.hid (pq.put (cp := cp) NP10 hxp)
      have HW10 := Lib.hid hw10
      clear pq f10 NP10 hw10 ST PK9 NP9
      go_wp2_with (rw [← HW10.out])
      refine PT2.out.mono ?_
      rintro e w11 ⟨rfl, f11, fin⟩
      have PK11 := Lib.hid (PK10.out.fr f11 (fun q h h' hh => hh ⟨h, h'⟩))
      have FN := Lib.hid fin
      clear f11 fin PT2 PK10 HW10 z0 z1 e0 e1
      generalize ptE base LL xp = ee at *
      generalize (ptS base LL xp).1 = base2 at *
      generalize (ptS base LL xp).2 = LL2 at *
      go_wp2_with fail
      go_loopw [10] (fun kk wl => ∃ k : Nat, kk = .int .i64 k ∧ k ≤ xp.length ∧ Hid (Fr w11 wl (fun q => W6.heap.size ≤ q ∧ q < w8.heap.size)) ∧ Hid (Pk W6.heap.size w8.heap.size wl p xp.length)) (fun kk _ => xp.length - (intOf kk).toNat)
      case atStart => exact ⟨0, rfl, Nat.zero_le _, Lib.hid (Fr.refl _ _), PK11⟩
      case round =>
        obtain ⟨k, rfl, hk, FL, PL⟩ := hrel
        clear PK11
        by_cases hkm : k < xp.length
        · obtain ⟨gp, cs, rfl, kg, hs, l1, l2⟩ := PL.out k hkm
          have d1 : wr.cell? ⟨gp, k, none⟩ = some cs[k] := by rw [kg.cell]; exact Array.getElem?_eq_getElem (by omega)
          have d2 := kg.free k
          have hkmI : (k : Int) < (xp.length : Int) := by omega
          have hkmB := decide_eq_true hkmI
          have F2 := Lib.hid (FL.out.set gp k (.int .i64 (-5)) (.inl ⟨l1, l2⟩))
          have P2 := Lib.hid (PL.out.set k gp (.int .i64 (-5)) rfl)
          clear kg FL PL FN PB
          generalize cs[k] = V0 at *
          go_wp2_with fail
          go_roundw
          case rel => exact ⟨k + 1, by go_num, by omega, F2, P2⟩
          case measure => simp [intOf]; omega
        · have hkmI : ¬ (k : Int) < ((xp.length : Nat) : Int) := by omega
          have hkmB := decide_eq_false hkmI
          have MQ := Lib.hid (FN.out wr FL.out)
          clear FL PL FN
          have SQ := Lib.hid MQ.out.same
          have y0 := MQ.out.c0
          have y1 := MQ.out.c1
          go_wp2_with fail
          refine SQ.out.mono ?_
          rintro e w12 ⟨rfl, m12⟩
          have M12 := Lib.hid m12
          clear m12 SQ y0 y1 MQ
          go_wp2_with fail
          go_roundw
          case rel => exact ⟨t, j + 1, base2, LL2, a', c', rfl, by go_num, by omega, by omega, M12⟩
          case measure => simp [intOf]; omega
    have hk0B := decide_eq_false hk0
    by_cases hk1 : xk = 1
    · subst hk1
      have RD := Lib.hid (M6.out.rd xa xb OK.out.2.1.2)
      have z0 := M6.out.c0
      have z1 := M6.out.c1
      go_wp2_with (rw [← HW6.out])
      refine RD.out.mono ?_
      rintro e w7 ⟨m, am, cm, nx, f, rfl, hm64, b7, rk⟩
      have RK := Lib.hid (rk _ (Below.refl _ _))
      have B7 := Lib.hid b7
      have K7 := Lib.hid (K6.out.next b7)
      have u1 : w7.cell? ⟨wr.heap.size, 1, none⟩ = some (.int .i64 xa) := K7.out.cell 1
      have u2 : w7.cell? ⟨wr.heap.size, 2, none⟩ = some (.int .i64 xb) := K7.out.cell 2
      clear RD rk b7 z0 z1 x0 x1 x2 x3 k0 k1 k2 k3 HW6 K6
      go_wp2_with fail
      refine RK.out.mono ?_
      rintro e w8 ⟨ag, cg, rfl, b8, g8, r15⟩
      have G8 := Lib.hid g8
      have R15 := Lib.hid (r15 _ (Below.refl _ _))
      have B8 := Lib.hid (B7.out.trans (b8.mono B7.out.size))
      have S8 : Hid (W6.heap.size ≤ w7.heap.size) := Lib.hid B7.out.size
      clear g8 r15 b8 RK u1 u2 K7 B7
      go_wp2_with fail
      refine R15.out.mono ?_
      rintro e w9 ⟨ar, cr, rfl, b9, r14⟩
      have G9 := Lib.hid (G8.out.next b9)
      have R14 := Lib.hid (r14 _ (Below.refl _ _))
      have B9 := Lib.hid (B8.out.trans (b9.mono B8.out.size))
      clear b9 r14 R15 G8 B8
      go_wp2_with fail
      refine R14.out.mono ?_
      rintro e w10 ⟨rfl, b10⟩
      have G10 := Lib.hid (G9.out.next b10)
      have B10 := Lib.hid (B9.out.trans (b10.mono B9.out.size))
      clear b10 R14 G9 B9
      go_wp2_with fail
      go_loopw [17] (fun kk wl => ∃ k : Nat, kk = .int .i64 k ∧ k ≤ m ∧ Hid (Got w7.heap.size wl ag m) ∧ Hid (Below W6.heap.size W6 wl)) (fun kk _ => m - (intOf kk).toNat)
      case atStart => exact ⟨0, rfl, Nat.zero_le _, G10, B10⟩
      case round =>
        obtain ⟨k, rfl, hk, GL, BL⟩ := hrel
        clear G10 B10
        by_cases hkm : k < m
        · obtain ⟨g, cg2, q2, n2, c2, X2, rfl, k1, k2, k0, k3, k4, k5⟩ := GL.out k hkm
          have d1 : wr.cell? ⟨g, k, none⟩ = some (.slice (some ⟨q2, 0, none⟩) n2 c2) := by rw [k1.cell]; exact k2
          have d2 : wr.cell? ⟨q2, 0, none⟩ = some X2[0] := by rw [k3.cell]; exact Array.getElem?_eq_getElem k4
          have e2 := k3.free 0
          have hkmI : (k : Int) < (m : Int) := by omega
          have n2I : (0 : Int) < (n2 : Int) := by omega
          have G2 := Lib.hid (GL.out.set k3 (.int .i64 (-5)))
          have B2 := Lib.hid (BL.out.trans ((fr_set wr q2 0 (.int .i64 (-5))).below (B := W6.heap.size) (fun q hq => by have := S8.out; omega) BL.out.size))
          clear k1 k2 k3 GL BL M6
          generalize X2[0] = V0 at *
          go_wp2_with fail
          go_roundw
          case rel => exact ⟨k + 1, by go_num, by omega, G2, B2⟩
          case measure => simp [intOf]; omega
        · obtain rfl : k = m := by omega
          have hkmI : ¬ (k : Int) < (k : Int) := by omega
          have MQ := Lib.hid (M6.out.next BL.out)
          clear GL BL M6
          have SQ := Lib.hid MQ.out.same
          have y0 := MQ.out.c0
          have y1 := MQ.out.c1
          go_wp2_with fail
          refine SQ.out.mono ?_
          rintro e w12 ⟨rfl, m12⟩
          have M12 := Lib.hid m12
          clear m12 SQ y0 y1 MQ
          go_wp2_with fail
          go_roundw
          case rel => exact ⟨t, j + 1, base, LL, a, c, rfl, by go_num, by omega, by omega, M12⟩
          case measure => simp [intOf]; omega
    have hk1B := decide_eq_false hk1
    by_cases hk2 : xk = 2
    · subst hk2
      have FG := Lib.hid (M6.out.fgt0 xa)
      have z0 := M6.out.c0
      have z1 := M6.out.c1
      have hX : wr.heap.size ≠ X := by have := XW.out; omega
      go_wp2_with (rw [← HW6.out])
      refine FG.out.mono ?_
      rintro e w7 ⟨⟨a', c', rfl, kX, st⟩, b7⟩
      have ST := Lib.hid st
      have K7 := Lib.hid (K6.out.next b7)
      have z0 := kX.cell 0
      have z1 := kX.cell 1
      have e0 := kX.free 0
      have e1 := kX.free 1
      clear FG st kX b7 x0 x1 x2 x3 k0 k1 k2 k3 HW6 K6 M6
      obtain ⟨w8, hw8⟩ : ∃ w8, w8 = (w7.setCell ⟨X, 0, none⟩ (.int .i64 (fgS base LL xa).1)).setCell ⟨X, 1, none⟩ (.slice a' (fgS base LL xa).2.length c') := ⟨_, rfl⟩
      obtain ⟨pq, f8⟩ := ST.out w8 hw8
      have K8 := Lib.hid (K7.out.fr f8 hX)
      have PG := Lib.hid (pq.fgt xa)
      have u1 : w8.cell? ⟨wr.heap.size, 1, none⟩ = some (.int .i64 xa) := K8.out.cell 1
      have HW8 := Lib.hid hw8
      clear pq f8 hw8 K7 ST
      go_wp2_with (rw [← HW8.out])
      refine PG.out.mono ?_
      rintro e w9 ⟨rfl, m9⟩
      have MQ := Lib.hid m9
      clear m9 PG u1 HW8 K8 z0 z1 e0 e1
      generalize fgE base LL xa = ee at *
      have SQ := Lib.hid MQ.out.same
      have y0 := MQ.out.c0
      have y1 := MQ.out.c1
      go_wp2_with fail
      refine SQ.out.mono ?_
      rintro e w12 ⟨rfl, m12⟩
      have M12 := Lib.hid m12
      clear m12 SQ y0 y1 MQ
      go_wp2_with fail
      go_roundw
      case rel => exact ⟨t, j + 1, _, _, a', c', rfl, by go_num, by omega, by omega, M12⟩
      case measure => simp [intOf]; omega
    have hk2B := decide_eq_false hk2
    by_cases hk3 : xk = 3
    · subst hk3
      have TX := Lib.hid M6.out.text
      go_wp2_with (rw [← HW6.out])
      refine TX.out.mono ?_
      rintro e w7 ⟨rfl, m7⟩
      have LD := Lib.hid m7.load
      clear m7 TX M6 x0 x1 x2 x3 k0 k1 k2 k3 HW6 K6
      generalize txtS base LL = TT at *
      go_wp2_with fail
      refine LD.out.mono ?_
      rintro e w8 ⟨t2, rfl, m8⟩
      have MQ := Lib.hid m8
      clear m8 LD
      have SQ := Lib.hid MQ.out.same
      have y0 := MQ.out.c0
      have y1 := MQ.out.c1
      go_wp2_with fail
      refine SQ.out.mono ?_
      rintro e w12 ⟨rfl, m12⟩
      have M12 := Lib.hid m12
      clear m12 SQ y0 y1 MQ
      go_wp2_with fail
      go_roundw
      case rel => exact ⟨t2, j + 1, base, LL, a, c, rfl, by go_num, by omega, by omega, M12⟩
      case measure => simp [intOf]; omega
    have hk3B := decide_eq_false hk3
    have MQ := M6
    clear M6
    have SQ := Lib.hid MQ.out.same
    have y0 := MQ.out.c0
    have y1 := MQ.out.c1
    go_wp2_with (rw [← HW6.out])
    refine SQ.out.mono ?_
    rintro e w12 ⟨rfl, m12⟩
    have M12 := Lib.hid m12
    clear m12 SQ y0 y1 MQ
    go_wp2_with fail
    go_roundw
    case rel => exact ⟨t, j + 1, base, LL, a, c, rfl, by go_num, by omega, by omega, M12⟩
    case measure => simp [intOf]; omega
end Go.Proofs.Ytlcgicgdlhnfoaa
