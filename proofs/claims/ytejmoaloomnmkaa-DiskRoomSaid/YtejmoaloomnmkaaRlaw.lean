/-
  THE LAW DiskRoom AS A WALK.
-/
import Derived.Test.YtejmoaloomnmkaaRm0
namespace Go.Proofs.Ytejmoaloomnmkaa
open Go.RowKit
theorem mod5000 (n : Int) : ∃ N : Nat, Int.tmod (Int.tmod n 5000 + 5000) 5000 = (N : Int) ∧ N < 5000 := by
  have h1 := Int.lt_tmod_of_pos n (show (0 : Int) < 5000 by decide)
  have h2 := Int.tmod_nonneg 5000 (show 0 ≤ Int.tmod n 5000 + 5000 by omega)
  have h3 := Int.tmod_lt_of_pos (Int.tmod n 5000 + 5000) (show (0 : Int) < 5000 by decide)
  exact ⟨(Int.tmod (Int.tmod n 5000 + 5000) 5000).toNat, by omega, by omega⟩
/-- the disk behind some acts -/
structure Rom (W wq : World) (D k n : Nat) (ma : Option Addr) : Prop where
  d : ∃ m S L, DkL wq W.heap.size D m S L ∧ (∀ ad : Addr, ma = some ad → ¬ L.foot D ad.block) ∧ Ok S ∧ RI n S ∧ S.row.length ≤ k ∧ m ≤ 200 * (k + 1)
theorem Rom.below {W wq w' : World} {D k n : Nat} {ma : Option Addr} (h : Rom W wq D k n ma) (hb : Below wq.heap.size wq w') : Rom W w' D k n ma := by
  obtain ⟨m, S, L, d, rest⟩ := h.d
  exact ⟨m, S, L, d.below hb, rest⟩
theorem Rom.more {W wq : World} {D k n : Nat} {ma : Option Addr} (h : Rom W wq D k n ma) : Rom W wq D (k + 1) n ma := by
  obtain ⟨m, S, L, d, hf, ok, kp, hrow, hmb⟩ := h.d
  exact ⟨m, S, L, d, hf, ok, kp, by omega, by omega⟩
/-- an act on a disk whose files were told: what there is behind it -/
theorem rom_act {W wr w1 : World} {D k n m : Nat} {S : St} {L : Lie} {ma p : Option Addr} {M : List Act} {FL : List FT} (d : DkL wr W.heap.size D m S L) (hf : ∀ ad : Addr, ma = some ad → ¬ L.foot D ad.block) (ok : Ok S) (ri : RI n S) (hrow : S.row.length ≤ k) (hmb : m ≤ 200 * (k + 1))
    (b1 : Below wr.heap.size wr w1) (hA : Acts wr ma M) (hk : k < M.length) (hk60 : k ≤ 60) (hF : Filed w1 p FL) (hp : ∀ ad : Addr, p = some ad → wr.heap.size ≤ ad.block) (x : Act) (wf : x.Wf) (h8 : x.kd ≠ 8) :
    Calls Try.prog 12 #[.pointer (some ⟨D, 0, none⟩), x.val] w1 fun e w' => ∃ (v : Int) (m' : Nat) (S' : St) (L' : Lie), e = .returned (.int .i64 v) ∧ DkL w' W.heap.size D m' S' L' ∧ Rom W w' D (k + 1) n ma ∧ Acts w' ma M ∧ Filed w' p FL ∧ Below W.heap.size w1 w' ∧ (v = 7 → S' = S ∧ x.kd = 0) ∧ sz S'.now ≤ n ∧ ∀ s ∈ namesOf S'.now, s.size ≤ 64 := by
  have d1 := d.below b1
  have hA1 := hA.below b1
  refine (act_any x wf d1 ok (by omega)).mono fun e w' hh => ?_
  obtain ⟨v, rfl, S', L', d', ok', st, hl, F, hN⟩ := hh
  have ri' := st.ri ri ok d.g1.uniq d.g2.uniq h8
  have hnow := ri'.now ok' d'.g1.uniq d'.g2.uniq
  refine ⟨v, _, S', L', rfl, d', ⟨_, S', L', d', fun ad e hq => ?_, ok', ri', by omega, by omega⟩, hA1.fr F hf, hF.fr F (fun ad e hq => ?_), Fr.foot d1 F, fun h7 => st.full h7, hnow.1, fun s hs => (names_small hnow.2 s hs).2⟩
  · rcases hN _ hq with hq | hq
    · exact hf ad e hq
    · obtain ⟨g, o, e', hg, _⟩ := hA1 k hk
      rw [e] at e'
      cases e'
      simp only at hq
      omega
  · have := (d.lt hq).2
    have := hp ad e
    omega
set_option maxHeartbeats 8000000 in
set_option maxRecDepth 100000 in
theorem room_law (a : Option Addr) (c : Nat) (LA : List Act) (nn : Int) (w : World) (hl : LA.length ≤ 9223372036854775807) (hx : Acts w a LA) (hwf : ∀ x ∈ LA, x.Wf) :
    Calls Try.prog 5 #[.slice a LA.length c, .int .i64 nn] w fun e w' => e = .returned (.bool true) ∧ Below w.heap.size w w' := by
  obtain ⟨N, hN, hN5⟩ := mod5000 nn
  have t1 := Int.lt_tmod_of_pos nn (show (0 : Int) < 5000 by decide)
  have t2 := Int.tmod_lt_of_pos nn (show (0 : Int) < 5000 by decide)
  have HX := Lib.hid hx
  have HWF := Lib.hid hwf
  have HL := Lib.hid hl
  have NW := Lib.hid (newd w)
  clear hx hwf hl
  generalize hn : LA.length = n at *
  have HN := Lib.hid hn
  clear hn
  obtain ⟨r, hr⟩ : ∃ r, Int.tmod nn 5000 = r := ⟨_, rfl⟩
  rw [hr] at hN t1 t2
  go_enter Try.func5, Try.ntmps5
  go_wp2_with fail
  refine NW.out.mono ?_
  rintro e w1 ⟨D, rfl, d1, b1⟩
  have D1 := Lib.hid d1
  have B1 := Lib.hid b1
  clear d1 b1 NW
  go_wp2_with fail
  refine (awake_any _).mono ?_
  rintro e w2 ⟨rfl, b2⟩
  have D2 := Lib.hid (D1.out.below b2)
  have B2 := Lib.hid (B1.out.trans (b2.mono B1.out.size))
  clear b2 D1 B1
  obtain ⟨L2, dl2⟩ := D2.out
  have RC := Lib.hid (room_any dl2 (N : Int))
  have BD := Lib.hid dl2.base
  clear dl2 D2
  go_wp2_with fail
  refine RC.out.mono ?_
  rintro e w3 ⟨rfl, d3, F3⟩
  have B3 := Lib.hid (B2.out.trans (F3.below (fun q hq => by rw [hq]; exact BD.out) (by have := B2.out.size; omega)))
  have D3 := Lib.hid d3
  have M4 := Lib.hid (most_any a c LA w3 (by rw [HN.out]; exact HL.out) (HX.out.below B3.out) HWF.out)
  clear d3 F3 RC B2
  rw [HN.out] at M4
  clear hN hr t1 t2
  go_wp2_with fail
  refine M4.out.mono ?_
  rintro e w5 ⟨ma, mc, M, rfl, hA, hM, hin, b5, hma⟩
  have A5 := Lib.hid hA
  have IN := Lib.hid hin
  have B5 := Lib.hid (B3.out.trans (b5.mono B3.out.size))
  have S5 : Hid (Rom w w5 D 0 N ma) := Lib.hid (by
    have d := D3.out
    refine ⟨_, _, _, d.below b5, fun ad e hq => ?_, ⟨trivial, Alike.refl _, by show (0 : Int) ≤ 9223372036854775807; decide, by show (0 : Int) ≤ 9223372036854775807; decide, fun _ => rfl⟩, ri0 N, Nat.zero_le _, by omega⟩
    have := (d.lt hq).2
    have := hma ad e
    omega)
  clear hA hin b5 M4 B3 D3 hma
  generalize hm : M.length = mm at *
  have HM := Lib.hid hm
  clear hm
  go_wp2_with fail
  go_loopw [7] (fun i wq => ∃ k : Nat, i = .int .i64 k ∧ k ≤ mm ∧ Rom w wq D k N ma ∧ Acts wq ma M ∧ Below w.heap.size w wq) (fun i _ => mm - (intOf i).toNat)
  case atStart => exact ⟨0, rfl, Nat.zero_le _, S5.out, A5.out, B5.out⟩
  case round =>
    obtain ⟨k, rfl, hkm, hR, hA, hB⟩ := hrel
    have HB := Lib.hid hB
    have HA := Lib.hid hA
    by_cases hk2 : k < mm
    · have hkL : k < M.length := by rw [HM.out]; exact hk2
      obtain ⟨ba, o, hma, hbl, c0, c1, c2, c3, c4⟩ := hA k hkL
      have hxw := HWF.out M[k] (IN.out _ (List.getElem_mem hkL)).1
      have hk60 : k ≤ 60 := by omega
      by_cases h8 : M[k].kd = 8
      · have RM := Lib.hid hR.more
        rw [h8] at c0
        subst hma
        clear hxw hA hB hR hkL c1 c2 c3 c4 h8
        go_wp2_with fail
        go_roundw
        case rel => exact ⟨k + 1, by go_num, by omega, RM.out, HA.out, HB.out⟩
        case measure => simp [intOf]; omega
      · obtain ⟨m, S, L, d, hf, ok, ri, hrow, hmb⟩ := hR.d
        have hnow := ri.now ok d.g1.uniq d.g2.uniq
        have FC := Lib.hid (files_any d (fun s hs => (names_small hnow.2 s hs).2))
        have DC := Lib.hid (fun W (b : Below wr.heap.size wr W) => down_any (d.below b))
        have hlf : (filesOf S).length ≤ 100000 := by
          unfold filesOf
          rw [List.length_map]
          split
          · exact Nat.zero_le _
          · rw [namesOf_len]; have := d.g2.few; have := d.low; omega
        have AC := Lib.hid (fun w1 p (b1 : Below wr.heap.size wr w1) hF hp => rom_act (w1 := w1) (p := p) (FL := filesOf S) d hf ok ri hrow hmb b1 hA hkL hk60 hF hp M[k] hxw h8)
        obtain ⟨FL, hFL⟩ : ∃ FL, filesOf S = FL := ⟨_, rfl⟩
        have HFL := Lib.hid hFL
        rw [hFL] at FC AC hlf
        obtain ⟨fn, hfn⟩ : ∃ fn, FL.length = fn := ⟨_, rfl⟩
        have SC := Lib.hid (fun p q cp cq W T1 T2 => same_any FL fn hfn (by omega) p q cp cq W T1 T2)
        have HFN := Lib.hid hfn
        have HK := Lib.hid (fun W (h : Acts W ma M) => (show W.cell? ⟨ba, o + k * 5, none⟩ = some (.int .i64 M[k].kd) by
          obtain ⟨g, o', e', _, d0, _⟩ := h k hkL
          rw [hma] at e'
          cases e'
          exact d0))
        obtain ⟨dw, hdw⟩ : ∃ dw, S.down = dw := ⟨_, rfl⟩
        have HDW := Lib.hid hdw
        have H8 : (M[k].kd == 8) = false := by simpa using h8
        generalize M[k] = x at *
        obtain ⟨xk, xn, xa, xb, xs⟩ := x
        unfold Act.val at AC
        simp only at c0 c1 c2 c3 c4 H8 AC HK
        clear hxw hA hB hR hkL d hf ok ri hrow hmb hnow hFL hfn hdw h8 hlf
        subst hma
        go_wp2_with fail
        refine FC.out.mono ?_
        rintro e v1 ⟨p, cp, rfl, hF1, b1, hp1⟩
        have B1v := Lib.hid b1
        have AC2 := Lib.hid (AC.out v1 p b1 hF1 hp1)
        have DC2 := Lib.hid (DC.out v1 b1)
        have q0 : v1.cell? ⟨ba, o + k * 5, none⟩ = some (.int .i64 xk) := by rw [b1.cell (p := ⟨ba, _, none⟩) hbl]; exact c0
        have q1 : v1.cell? ⟨ba, o + k * 5 + 1, none⟩ = some (.string xn) := by rw [b1.cell (p := ⟨ba, _, none⟩) hbl]; exact c1
        have q2 : v1.cell? ⟨ba, o + k * 5 + 2, none⟩ = some (.int .i64 xa) := by rw [b1.cell (p := ⟨ba, _, none⟩) hbl]; exact c2
        have q3 : v1.cell? ⟨ba, o + k * 5 + 3, none⟩ = some (.int .i64 xb) := by rw [b1.cell (p := ⟨ba, _, none⟩) hbl]; exact c3
        have q4 : v1.cell? ⟨ba, o + k * 5 + 4, none⟩ = some (.string xs) := by rw [b1.cell (p := ⟨ba, _, none⟩) hbl]; exact c4
        have HB1 := Lib.hid (HB.out.trans (b1.mono HB.out.size))
        rw [HFN.out]
        rw [HDW.out] at DC2
        have HLB := Lib.hid hbl
        clear hF1 hp1 b1 AC DC FC c0 c1 c2 c3 c4 HB HA hbl
        go_wp2_with fail
        refine DC2.out.mono ?_
        rintro e v2 ⟨rfl, rfl⟩
        go_wp2_with fail
        refine AC2.out.mono ?_
        rintro e v3 ⟨xv, m', S', L', rfl, d3, r3, a3, f3, b3, h7, hsz, hz3⟩
        have R3h := Lib.hid r3
        have A3h := Lib.hid a3
        have B3h := Lib.hid (HB1.out.trans b3)
        have F3h := Lib.hid f3
        have K0 := HK.out _ a3
        have FC3 := Lib.hid (files_any d3 hz3)
        have DC3 := Lib.hid (fun W (b : Below v3.heap.size v3 W) => down_any (d3.below b))
        have UC3 := Lib.hid (fun W (b : Below v3.heap.size v3 W) => used_any (d3.below b))
        obtain ⟨dw3, hdw3⟩ : ∃ dw, S'.down = dw := ⟨_, rfl⟩
        have hsz' : ¬ ((N : Int) < (sz S'.now : Int)) := by omega
        rw [hdw3] at DC3 UC3
        clear q0 q1 q2 q3 q4 AC2 DC2 HB1 r3 a3 f3 b3 d3 hz3
        by_cases h77 : xv = 7
        · obtain ⟨rfl, hkd⟩ := h7 h77
          replace hkd : xk = 0 := hkd
          subst hkd
          subst h77
          rw [HFL.out] at FC3
          clear h7
          go_wp2_with fail
          refine FC3.out.mono ?_
          rintro e v4 ⟨p2, cp2, rfl, hF2, b4, _⟩
          have F2h := Lib.hid hF2
          have F3i := Lib.hid (F3h.out.below b4)
          have B4 := Lib.hid b4
          rw [HFN.out]
          clear hF2 b4 FC3 K0
          go_wp2_with fail
          refine (SC.out _ _ _ _ _ F3i.out F2h.out).mono ?_
          rintro e v5 ⟨rfl, b5⟩
          have B5i := Lib.hid (B4.out.trans (b5.mono B4.out.size))
          have R5h := Lib.hid (R3h.out.below B5i.out)
          have A5h := Lib.hid (A3h.out.below B5i.out)
          have B5h := Lib.hid (B3h.out.trans (B5i.out.mono B3h.out.size))
          clear b5 F2h F3i B4 F3h R3h A3h B3h
          cases dw
          · cases dw3
            · go_wp2_with fail
              refine (DC3.out _ B5i.out).mono ?_
              rintro e vz ⟨rfl, rfl⟩
              go_wp2_with fail
              refine (UC3.out _ B5i.out).mono ?_
              rintro e vz ⟨rfl, rfl⟩
              go_wp2_with fail
              go_roundw
              case rel => exact ⟨k + 1, by go_num, by omega, R5h.out, A5h.out, B5h.out⟩
              case measure => simp [intOf]; omega
            · go_wp2_with fail
              refine (DC3.out _ B5i.out).mono ?_
              rintro e vz ⟨rfl, rfl⟩
              go_wp2_with fail
              go_roundw
              case rel => exact ⟨k + 1, by go_num, by omega, R5h.out, A5h.out, B5h.out⟩
              case measure => simp [intOf]; omega
          · skip
            go_wp2_with fail
            go_roundw
            case rel => exact ⟨k + 1, by go_num, by omega, R5h.out, A5h.out, B5h.out⟩
            case measure => simp [intOf]; omega
        · have E7 : (xv == 7) = false := by simpa using h77
          clear h7 h77 FC3 K0 SC
          cases dw
          · cases dw3
            · go_wp2_with fail
              refine (DC3.out _ (Below.refl _ _)).mono ?_
              rintro e vz ⟨rfl, rfl⟩
              go_wp2_with fail
              refine (UC3.out _ (Below.refl _ _)).mono ?_
              rintro e vz ⟨rfl, rfl⟩
              go_wp2_with fail
              go_roundw
              case rel => exact ⟨k + 1, by go_num, by omega, R3h.out, A3h.out, B3h.out⟩
              case measure => simp [intOf]; omega
            · go_wp2_with fail
              refine (DC3.out _ (Below.refl _ _)).mono ?_
              rintro e vz ⟨rfl, rfl⟩
              go_wp2_with fail
              go_roundw
              case rel => exact ⟨k + 1, by go_num, by omega, R3h.out, A3h.out, B3h.out⟩
              case measure => simp [intOf]; omega
          · skip
            go_wp2_with fail
            go_roundw
            case rel => exact ⟨k + 1, by go_num, by omega, R3h.out, A3h.out, B3h.out⟩
            case measure => simp [intOf]; omega
    · have hkm2 : (mm : Int) ≤ k := by omega
      clear hA hB hR
      go_wp2_with fail
      go_ret
      exact ⟨rfl, HB.out⟩
end Go.Proofs.Ytejmoaloomnmkaa
