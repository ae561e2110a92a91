/-
  THE LAW DiskPrefix AS A WALK.
-/
import Derived.Test.YtejmoaloomnmkaaPfx5
import Derived.Deep.DeepCutAuto
import Derived.Deep.CutBlock
import Derived.BigRegion
import Derived.Outline
namespace Go.Proofs.Ytejmoaloomnmkaa
open Go.RowKit
theorem filed_alt {w : World} {a : Option Addr} {L : List FT} {B : Nat} (h : Filed w a L) (hb : ∀ ad : Addr, a = some ad → B ≤ ad.block) : ∃ a' : Option Addr, Filed w a' L ∧ (∀ ad : Addr, a' = some ad → B ≤ ad.block ∧ ad.block < w.heap.size) ∧ ∀ W, Filed W a' L → Filed W a L := by
  by_cases h0 : 0 < L.length
  · refine ⟨a, h, fun ad e => ⟨hb ad e, ?_⟩, fun _ h => h⟩
    obtain ⟨g, o, e', hg, _⟩ := h 0 h0
    rw [e] at e'
    cases e'
    exact hg
  · exact ⟨none, fun p hp => absurd hp (by omega), (fun _ e => by cases e), fun _ _ p hp => absurd hp (by omega)⟩
theorem acts_alt {w : World} {a : Option Addr} {L : List Act} {B : Nat} (h : Acts w a L) (hb : ∀ ad : Addr, a = some ad → B ≤ ad.block) : ∃ a' : Option Addr, Acts w a' L ∧ (∀ ad : Addr, a' = some ad → B ≤ ad.block ∧ ad.block < w.heap.size) ∧ ∀ W, Acts W a' L → Acts W a L := by
  by_cases h0 : 0 < L.length
  · refine ⟨a, h, fun ad e => ⟨hb ad e, ?_⟩, fun _ h => h⟩
    obtain ⟨g, o, e', hg, _⟩ := h 0 h0
    rw [e] at e'
    cases e'
    exact hg
  · exact ⟨none, fun p hp => absurd hp (by omega), (fun _ e => by cases e), fun _ _ p hp => absurd hp (by omega)⟩
theorem cells4 {w w' : World} {Z : Nat} {a b c d : Value} (h : Below w.heap.size w w') (hz : Z < w.heap.size) (s : w.cell? ⟨Z, 0, none⟩ = some a ∧ w.cell? ⟨Z, 1, none⟩ = some b ∧ w.cell? ⟨Z, 2, none⟩ = some c ∧ w.cell? ⟨Z, 3, none⟩ = some d) : w'.cell? ⟨Z, 0, none⟩ = some a ∧ w'.cell? ⟨Z, 1, none⟩ = some b ∧ w'.cell? ⟨Z, 2, none⟩ = some c ∧ w'.cell? ⟨Z, 3, none⟩ = some d := by
  rw [h.cell (p := ⟨Z, 0, none⟩) hz, h.cell (p := ⟨Z, 1, none⟩) hz, h.cell (p := ⟨Z, 2, none⟩) hz, h.cell (p := ⟨Z, 3, none⟩) hz]
  exact s
/-- behind the first loop -/
def P1End (W : World) (D E BE Y mm : Nat) (ma : Option Addr) (M : List Act) (u i : Value) (wx : World) : Prop := ∃ (k : Nat) (A : List Act), i = .int .i64 k ∧ k ≤ mm ∧ A.length ≤ 30 ∧ P1 W wx D E BE Y k ma M A A u
theorem act_val (kd n k : Int) (nm s : Nm) : (Act.mk kd nm n k s).val = .agg #[.int .i64 kd, .string nm, .int .i64 n, .int .i64 k, .string s] := rfl
set_option maxHeartbeats 16000000 in
set_option maxRecDepth 100000 in
theorem prefix_law (a : Option Addr) (c : Nat) (LA : List Act) (kk : Int) (w : World) (hl : LA.length ≤ 9223372036854775807) (hx : Acts w a LA) (hwf : ∀ x ∈ LA, x.Wf) (hk : kk ≤ 9223372036854775807) :
    Calls Try.prog 4 #[.slice a LA.length c, .int .i64 kk] w fun e w' => e = .returned (.bool true) ∧ Below w.heap.size w w' := by
  have HX := Lib.hid hx
  have HWF := Lib.hid hwf
  have HL := Lib.hid hl
  have NW := Lib.hid (newd w)
  clear hx hwf hl
  generalize hn : LA.length = n at *
  have HN := Lib.hid hn
  clear hn
  obtain ⟨i31, hi, hz0, hz1, hz2⟩ := info_parts info31
  go_enter Try.func4, Try.ntmps4
  go_wp2_with fail
  refine NW.out.mono ?_
  rintro e w1 ⟨D, rfl, d1, b1⟩
  have D1 := Lib.hid d1
  have B1 := Lib.hid b1
  have NE := Lib.hid (newd w1)
  clear d1 b1 NW
  go_wp2_with fail
  refine NE.out.mono ?_
  rintro e w2 ⟨E, rfl, e2, b2⟩
  have E2 := Lib.hid e2
  have B12 := Lib.hid b2
  clear e2 b2 NE
  go_wp2_with fail
  refine (awake_any _).mono ?_
  rintro e w3 ⟨rfl, b3⟩
  have B23 := Lib.hid b3
  have B13 := Lib.hid (B12.out.trans (b3.mono B12.out.size))
  have B3 := Lib.hid (B1.out.trans (B13.out.mono B1.out.size))
  have M4 := Lib.hid (most_any a c LA w3 (by rw [HN.out]; exact HL.out) (HX.out.below B3.out) HWF.out)
  clear b3
  rw [HN.out] at M4
  go_wp2_with fail
  refine M4.out.mono ?_
  rintro e w5 ⟨ma0, mc, M, rfl, hA, hM, hin, b5, hma⟩
  obtain ⟨ma, hA', hmab, halt⟩ := acts_alt hA hma
  have HALT := Lib.hid halt
  have IN := Lib.hid hin
  have P0 : Hid (P1 w w5 D E w1.heap.size w5.heap.size 0 ma M [] [] (.slice none 0 0)) := Lib.hid (by
    obtain ⟨L, d⟩ := D1.out
    obtain ⟨LE, de⟩ := E2.out
    have s12 := B12.out.size
    have s23 := B23.out.size
    have s35 := b5.size
    have s1 := B1.out.size
    refine ⟨⟨0, st0, L, LE, d.below (B13.out.trans (b5.mono B13.out.size)), ok0, ⟨rfl, rfl, by decide⟩, rfl, trivial, Nat.zero_le _, by omega, de.below (B23.out.trans (b5.mono B23.out.size)), fun q hq => ⟨?_, fun hh => ?_⟩, fun ad e => ⟨fun hh => ?_, (hmab ad e).2⟩, (fun q e => by cases e)⟩, hA', World.ownsRow_nil _ _ _ _, B3.out.trans (b5.mono B3.out.size), (fun x hx => by cases hx), Nat.le_refl _, by omega⟩
    · have := (de.lt hq).2; omega
    · have h1 := (de.lt hq).1; have h2 := (d.lt hh).2; omega
    · have h2 := (d.lt hh).2; have := (hmab ad e).1; omega)
  have HBE := Lib.hid (show w.heap.size ≤ w1.heap.size from B1.out.size)
  clear hA hA' hin b5 M4 B3 B13 B23 B12 hma hmab halt D1 E2 B1
  generalize w1.heap.size = BE at *
  generalize w5.heap.size = Y at *
  generalize hm : M.length = mm at *
  have HM := Lib.hid hm
  clear hm
  go_upto_block 0 with fail
  go_cut [7, 9] from 29 to 69 (fun u i wx => P1End w D E BE Y mm ma M u i wx)
  case first =>
    go_wp2_with fail
    go_loopw [9, 7] (fun i ts wq => ∃ (k : Nat) (A : List Act) (u : Value), i = .int .i64 k ∧ ts = u ∧ k ≤ mm ∧ A.length ≤ 30 ∧ P1 w wq D E BE Y k ma M A A u) (fun i _ _ => mm - (intOf i).toNat)
    case atStart => exact ⟨0, [], _, rfl, rfl, Nat.zero_le _, Nat.zero_le _, P0.out⟩
    case round =>
      obtain ⟨k, A, u, rfl, rfl, hkm, h30, hP⟩ := hrel
      obtain ⟨ua, uc, hu⟩ := nrow_form hP.o
      subst hu
      obtain ⟨j, hj⟩ : ∃ j, A.length = j := ⟨_, rfl⟩
      have HJ := Lib.hid hj
      have HP := Lib.hid hP
      have PE : Hid (P1End w D E BE Y mm ma M (.slice ua j uc) (.int .i64 k) wr) := Lib.hid ⟨k, A, rfl, hkm, h30, by rw [← hj]; exact hP⟩
      rw [hj] at HP h30 ⊢
      clear hP hj
      by_cases hk2 : k < mm
      · by_cases hj30 : j < 30
        · have hj3 : (j : Int) < 30 := by omega
          have hj' : decide ((j : Int) < 30) = true := by simp; omega
          have hkL : k < M.length := by rw [HM.out]; exact hk2
          obtain ⟨ba, o, hma, hbl, c0, c1, c2, c3, c4⟩ := (HALT.out _ HP.out.acts) k hkL
          have hxw := HWF.out M[k] (IN.out _ (List.getElem_mem hkL)).1
          have hxs := (IN.out _ (List.getElem_mem hkL)).2
          have HC := Lib.hid (fun W (h : Acts W ma M) => (show W.cell? ⟨ba, o + k * 5, none⟩ = some (.int .i64 M[k].kd) ∧ W.cell? ⟨ba, o + k * 5 + 1, none⟩ = some (.string M[k].nm) ∧ W.cell? ⟨ba, o + k * 5 + 2, none⟩ = some (.int .i64 M[k].n) ∧ W.cell? ⟨ba, o + k * 5 + 3, none⟩ = some (.int .i64 M[k].k) ∧ W.cell? ⟨ba, o + k * 5 + 4, none⟩ = some (.string M[k].s) by
            obtain ⟨g, o', e', _, d0, d1, d2, d3, d4⟩ := HALT.out W h k hkL
            rw [hma] at e'
            cases e'
            exact ⟨d0, d1, d2, d3, d4⟩))
          have hk60 : k ≤ 60 := by omega
          have AC := Lib.hid (fun (hkd : 0 ≤ M[k].kd ∧ M[k].kd ≤ 3) => HP.out.act hk60 M[k] hxw hkd hxs)
          have PM := HP.out.more
          generalize M[k] = x at *
          obtain ⟨xk, xn, xa, xb, xs⟩ := x
          unfold Act.val at AC
          simp only at c0 c1 c2 c3 c4 AC HC
          clear hxw hxs hkL
          have PMh := Lib.hid PM
          clear PM
          subst hma
          by_cases hlo : 0 ≤ xk
          · by_cases hhi : xk ≤ 3
            · have AC2 := Lib.hid (AC.out ⟨hlo, hhi⟩)
              clear AC HP
              go_wp2_with fail
              refine AC2.out.mono ?_
              rintro e w6 ⟨v, rfl, hv⟩
              rcases hv with ⟨rfl, p6⟩ | ⟨hv, p6⟩
              · have P6 := Lib.hid p6
                obtain ⟨q0, q1, q2, q3, q4⟩ := HC.out w6 p6.acts
                have OW : Hid (w6.ownsRow Y 31 5 (.slice ua j uc) j (cellsA A)) := Lib.hid (by have := p6.o; rw [HJ.out] at this; exact this)
                have hYv : Y ≤ w6.heap.size := p6.y
                have PU := Lib.hid (fun w8 g cap ho hg hat => (p6.below ((Below.refl _ w6).alloc (Nat.le_refl _) (.cells #[.int .i64 xk, .string xn, .int .i64 xa, .int .i64 xb, .string xs] 31))).push (w8 := w8) (g := g) (cap := cap) (x := ⟨xk, xn, xa, xb, xs⟩) ho hg hat)
                rw [HJ.out] at PU
                have H1C : Hid (∀ u ∈ [Value.int .i64 xk, .string xn, .int .i64 xa, .int .i64 xb, .string xs], u.oneCell' = true) := Lib.hid (by
                  intro u hu
                  simp at hu
                  rcases hu with rfl | rfl | rfl | rfl | rfl <;> rfl)
                clear p6 AC2 PE PMh c0 c1 c2 c3 c4
                go_wp2_with (at_builtin; refine wpList_append_lies _ rfl (.tmp 63) (.tmp 68) 22 rfl Y 31 i31 (.agg #[.int .i64 0, .string ⟨#[]⟩, .int .i64 0, .int .i64 0, .string ⟨#[]⟩]) 5 56 Try.underlying22 hi hz0 hz1 hz2 rfl (by decide) (.slice ua j uc) j (cellsA A) rfl (World.ownsRow.alloc OW.out _) ⟨w6.heap.size, 0, none⟩ 1 1 [.int .i64 xk, .string xn, .int .i64 xa, .int .i64 xb, .string xs] rfl rfl (World.news_of_block (cs := #[.int .i64 xk, .string xn, .int .i64 xa, .int .i64 xb, .string xs]) (heap_alloc_new w6 _)) H1C.out (by decide) (by unfold maxLen; omega) (by omega) (by simp; omega) _ rfl ?_; intro g8 cap8 w8 ho8 hg8 hat8 _; have P8h := Lib.hid (PU.out w8 g8 cap8 ho8 hg8 (hat8.imp id (fun e => by rw [e]; exact Nat.le_refl _))); clear ho8 hg8 hat8)
                go_roundw
                case rel => exact ⟨k + 1, A ++ [⟨xk, xn, xa, xb, xs⟩], _, by go_num, rfl, by omega, by rw [List.length_append, HJ.out]; show j + 1 ≤ 30; omega, P8h.out⟩
                case measure => simp [intOf]; omega
              · have hv' : (v == 0) = false := by simpa using hv
                have P6 := Lib.hid p6
                clear p6 hv PMh
                go_wp2_with fail
                go_roundw
                case rel => exact ⟨k + 1, A, _, by go_num, rfl, by omega, by rw [HJ.out]; omega, P6.out⟩
                case measure => simp [intOf]; omega
            · have hhi' : decide (xk ≤ 3) = false := by simpa using hhi
              have hhi2 : 3 < xk := by omega
              clear AC HP
              go_wp2_with fail
              go_roundw
              case rel => exact ⟨k + 1, A, _, by go_num, rfl, by omega, by rw [HJ.out]; omega, PMh.out⟩
              case measure => simp [intOf]; omega
          · have hlo' : decide (0 ≤ xk) = false := by simpa using hlo
            have hlo2 : xk < 0 := by omega
            clear AC HP
            go_wp2_with fail
            go_roundw
            case rel => exact ⟨k + 1, A, _, by go_num, rfl, by omega, by rw [HJ.out]; omega, PMh.out⟩
            case measure => simp [intOf]; omega
        · have hj' : decide ((j : Int) < 30) = false := by simp; omega
          have hj2 : ¬ (j : Int) < 30 := by omega
          go_wp2_with fail
          go_meet
          exact PE.out
      · have hk3 : (mm : Int) ≤ k := by omega
        go_wp2_with fail
        go_meet
        exact PE.out
  case rest =>
    obtain ⟨k, A, rfl, hkm, h30, hP⟩ := hcut
    obtain ⟨da, dc, hu⟩ := nrow_form hP.o
    subst hu
    obtain ⟨R, hrun, hlf, hfiles, hfail⟩ := hP.rest (by omega) HBE.out kk hk
    have HRUN := Lib.hid hrun
    have hRl : R.length = A.length := hrun.len.symm
    obtain ⟨FL, hFL⟩ : ∃ FL, filesF (doAll [] R) = FL := ⟨_, rfl⟩
    obtain ⟨k0, hk0⟩ : ∃ k0, atLeast kk 0 = k0 := ⟨_, rfl⟩
    obtain ⟨K, hK⟩ : ∃ K, keepF [] R k0 = K := ⟨_, rfl⟩
    obtain ⟨G, hG⟩ : ∃ G, filesF K = G := ⟨_, rfl⟩
    have HNK : Hid (Ns K) := Lib.hid (by rw [← hK]; exact ns_keep hrun k0)
    have HUK : Hid (Uniq K) := Lib.hid (by rw [← hK]; exact uniq_keep uniq_nil R k0)
    have ALL := Lib.hid (fun (h : 200000 < kk) => (show G = FL by
      rw [← hG, ← hFL, ← hK, keep_all [] R k0 (hrun.cost hP.sm) (by rw [← hk0]; unfold atLeast; split <;> omega)]))
    have HGE : Hid (G = filesF (keepF [] R k0)) := Lib.hid (by rw [hK, hG])
    rw [hk0, hK, hFL] at hfail
    rw [hFL] at hfiles hlf
    have HSM := Lib.hid hP.sm
    obtain ⟨na, hna⟩ : ∃ na, A.length = na := ⟨_, rfl⟩
    have HNA := Lib.hid hna
    have HFI := Lib.hid hfiles
    have HFA := Lib.hid hfail
    have HG := Lib.hid hG
    obtain ⟨nf, hnf⟩ : ∃ nf, FL.length = nf := ⟨_, rfl⟩
    have HNF := Lib.hid hnf
    rw [hnf] at hlf
    rw [hna] at h30 ⊢
    clear hrun hRl hFL hk0 hK hG hna hfiles hfail hP hnf P0 IN HALT HX HWF
    go_upto_region 11 with fail
    go_wp2_with fail
    refine HFI.out.mono ?_
    rintro e w6 ⟨wa0, wcap, rfl, hF, b6, hw⟩
    obtain ⟨wa, hF', hwb, halt⟩ := filed_alt hF hw
    have HALT := Lib.hid halt
    have FA := Lib.hid (HFA.out w6 wa b6 hF' hwb)
    rw [HNF.out]
    clear hF hF' b6 hw hwb halt HFI HFA
    go_wp2_with fail
    refine FA.out.mono ?_
    rintro e w7 ⟨rfl, p7⟩
    have P7 := Lib.hid p7.wake
    clear p7 FA
    go_wp2_with fail
    refine P7.out.mono ?_
    rintro e w8 ⟨rfl, p8⟩
    have P8 := Lib.hid p8
    have FC := p8.files HNK.out HUK.out
    rw [HG.out] at FC
    have FC8 := Lib.hid FC.1
    have hlg := FC.2
    clear p8 P7 FC
    go_wp2_with fail
    refine FC8.out.mono ?_
    rintro e w9 ⟨ga, gc, rfl, hG9, b9, hgb⟩
    have G9 := Lib.hid hG9
    have B9 := Lib.hid b9
    have GB := Lib.hid hgb
    have W9 := Lib.hid (HALT.out w9 (P8.out.below b9).want)
    obtain ⟨ng, hng⟩ : ∃ ng, G.length = ng := ⟨_, rfl⟩
    have HNG := Lib.hid hng
    rw [hng] at hlg ⊢
    clear hG9 b9 hgb FC8 hng HALT
    go_upto_region 15 with fail
    go_cut [86] from 79 to 85 (fun s wx => s = .bool false ∧ Below w9.heap.size w9 wx)
    case first =>
      have B99 := Lib.hid (Below.refl w9.heap.size w9)
      by_cases h200 : 200000 < kk
      · have hgf := ALL.out h200
        subst hgf
        have hnn : nf = ng := by rw [← HNF.out, ← HNG.out]
        subst hnn
        have SA := Lib.hid (same_any _ nf HNF.out hlf ga wa0 gc wcap w9 G9.out W9.out)
        go_wp2_with fail
        refine SA.out.mono ?_
        rintro e wz ⟨rfl, bz⟩
        have BZ := Lib.hid bz
        clear bz
        go_wp2_with fail
        go_meet
        exact ⟨rfl, BZ.out⟩
      · have h200' : decide (200000 < kk) = false := decide_eq_false h200
        go_wp2_with fail
        go_meet
        exact ⟨rfl, B99.out⟩
    case rest =>
      obtain ⟨rfl, b10⟩ := hcut
      have B10 := Lib.hid (B9.out.trans (b10.mono B9.out.size))
      have G10 := Lib.hid (G9.out.below b10)
      clear b10
      by_cases h0 : G = []
      · subst h0
        have hng0 : ng = 0 := HNG.out.symm
        subst hng0
        have SA := Lib.hid (same_any [] 0 rfl (by omega) ga none gc 0 wc G10.out (fun p hp => absurd hp (Nat.not_lt_zero p)))
        have BF := Lib.hid (P8.out.b.trans (B10.out.mono P8.out.b.size))
        go_wp2_with fail
        refine SA.out.mono ?_
        rintro e wz ⟨rfl, bz⟩
        have BZ := Lib.hid (BF.out.trans (bz.mono BF.out.size))
        clear bz
        go_wp2_with fail
        go_ret
        exact ⟨rfl, BZ.out⟩
      · have hg0 : 0 < G.length := by
          cases G with
          | nil => exact absurd rfl h0
          | cons _ _ => simp
        have SN := Lib.hid (same_no G [] ng 0 HNG.out rfl (by omega) (by omega) ga none gc 0 wc G10.out (fun p hp => absurd hp (Nat.not_lt_zero p)) h0)
        have PP := Lib.hid (fun w' (b : Below w8.heap.size w8 w') (hG : Filed w' ga G) => by
          have p8 := P8.out
          have := p8.p2 (R := R) b (by rw [HG.out]; exact hG) GB.out (by rw [HG.out]; exact hg0)
          rw [HG.out] at this
          exact this)
        go_wp2_with fail
        refine SN.out.mono ?_
        rintro e w11 ⟨rfl, b11⟩
        have G11 := Lib.hid (G10.out.below b11)
        have P11 := Lib.hid (PP.out w11 (B10.out.trans (b11.mono B10.out.size)) G11.out)
        clear b11 PP SN G10 G11 P8 GB B10 B9 G9 W9 HNF HNK HUK ALL
        go_wp2_with fail
        go_loopw [12] (fun i wq => ∃ i' : Nat, i = .int .i64 i' ∧ i' ≤ na ∧ P2 w wq E BE i' da ga A R G ∧ Hid (Nots A R G i')) (fun i _ => na - (intOf i).toNat)
        case atStart => exact ⟨0, rfl, Nat.zero_le _, P11.out, Lib.hid (Nots.zero A R G)⟩
        case round =>
          obtain ⟨i', rfl, hi', hP, hNo⟩ := hrel
          have HP := Lib.hid hP
          by_cases hin : i' < na
          · have hiA : i' < A.length := by rw [HNA.out]; exact hin
            have hi60 : i' ≤ 60 := by omega
            obtain ⟨ba, o, hda, hbl, c0, c1, c2, c3, c4⟩ := hP.acts i' hiA
            have HC := Lib.hid (fun W (h : Acts W da A) => (show W.cell? ⟨ba, o + i' * 5, none⟩ = some (.int .i64 A[i'].kd) ∧ W.cell? ⟨ba, o + i' * 5 + 1, none⟩ = some (.string A[i'].nm) ∧ W.cell? ⟨ba, o + i' * 5 + 2, none⟩ = some (.int .i64 A[i'].n) ∧ W.cell? ⟨ba, o + i' * 5 + 3, none⟩ = some (.int .i64 A[i'].k) ∧ W.cell? ⟨ba, o + i' * 5 + 4, none⟩ = some (.string A[i'].s) ∧ ba < W.heap.size by
              obtain ⟨g, o', e', hg, d0, d1, d2, d3, d4⟩ := h i' hiA
              rw [hda] at e'
              cases e'
              exact ⟨d0, d1, d2, d3, d4, hg⟩))
            have hs3 := HSM.out _ (List.getElem_mem hiA)
            obtain ⟨X0, hX0⟩ : ∃ X0, filesF (doAll [] (R.take i')) = X0 := ⟨_, rfl⟩
            obtain ⟨X1, hX1⟩ : ∃ X1, filesF (doAll [] (R.take (i' + 1))) = X1 := ⟨_, rfl⟩
            obtain ⟨XT, hXT⟩ : ∃ XT : Nat → List FT, (fun n => filesF ((Chg.put A[i'].nm A[i'].n.toNat (A[i'].s.extract 0 n)).doF (doAll [] (R.take i')))) = XT := ⟨_, rfl⟩
            have hfew := hP.few.1
            rw [hX0] at hfew
            have TL := Lib.hid (fun n => (show (XT n).length ≤ 200001 by
              rw [← hXT, filesF_len]
              have h1 := len_put (doAll [] (R.take i')) A[i'].nm (splice (gl (doAll [] (R.take i')) A[i'].nm) A[i'].n.toNat (bl (A[i'].s.extract 0 n)))
              rw [← hX0, filesF_len] at hfew
              show (put _ _ _).length ≤ _
              omega))
            have TN := Lib.hid (fun (h0 : A[i'].kd = 0) (n : Nat) (hn : n ≤ A[i'].s.size) (m : Nat) (hm : X0.length = m) (w1 : World) (p : Option Addr) (cp : Nat) (T : Filed w1 p X0) => (show Calls Try.prog 18 #[.slice p m cp, .agg #[.int .i64 0, .string A[i'].nm, .int .i64 A[i'].n, .string (A[i'].s.extract 0 n)]] w1 (Filesd w1 (XT n)) by
              rw [← hXT]
              rw [← hX0] at hm T
              exact hP.torn HRUN.out hiA h0 n hn hs3 hm T))
            have ACT := Lib.hid (fun W (h : P2 w W E BE i' da ga A R G) => h.act HRUN.out hiA hi60)
            have FIL := Lib.hid (fun W (h : P2 w W E BE i' da ga A R G) => (show Calls Try.prog 16 #[.pointer (some ⟨E, 0, none⟩)] W (Filesd W X0) by rw [← hX0]; exact h.files HRUN.out))
            have FI1 := Lib.hid (fun W (h : P2 w W E BE (i' + 1) da ga A R G) => (show Calls Try.prog 16 #[.pointer (some ⟨E, 0, none⟩)] W (Filesd W X1) ∧ X1.length ≤ 100000 by rw [← hX1]; exact ⟨h.files HRUN.out, h.few.1⟩))
            have NXT := Lib.hid (fun (h1 : X1 ≠ G) (h2 : A[i'].kd = 0 → ∀ n, n < A[i'].s.size → XT n ≠ G) => (show Nots A R G (i' + 1) from fun j hj hjl => by
              by_cases e : j = i'
              · subst e
                rw [hX1]
                refine ⟨h1, fun h0 n hn => ?_⟩
                have := h2 h0 n hn
                rw [← hXT] at this
                exact this
              · exact hNo.out j (by omega) hjl))
            generalize A[i'] = x at *
            obtain ⟨xk, xn, xa, xb, xs⟩ := x
            unfold Act.val at ACT
            simp only at c0 c1 c2 c3 c4 ACT HC TN NXT hs3
            subst hda
            obtain ⟨n0, hn0⟩ : ∃ n0, X0.length = n0 := ⟨_, rfl⟩
            have HN0 := Lib.hid hn0
            rw [hn0] at hfew
            clear hX0 hX1 hXT hiA hP hNo hn0
            go_upto_if 100 with fail
            go_cut [13, 14] from 101 to 134 (fun _s13 _s14 wx => P2 w wx E BE i' (some ⟨ba, o, none⟩) ga A R G ∧ Hid (xk = 0 → ∀ n, n < xs.size → XT n ≠ G))
            case first =>
              by_cases h0 : xk = 0
              · have h0' : (xk == 0) = true := by simpa using h0
                have HX0 := Lib.hid h0
                clear h0 c0 c1 c2 c3 c4
                go_wp2_with fail
                go_loopw [13] (fun i wq => ∃ nn : Nat, i = .int .i64 nn ∧ nn ≤ xs.size ∧ P2 w wq E BE i' (some ⟨ba, o, none⟩) ga A R G ∧ Hid (∀ n, n < nn → XT n ≠ G)) (fun i _ => xs.size - (intOf i).toNat)
                case atStart => exact ⟨0, rfl, Nat.zero_le _, HP.out, Lib.hid (fun n hn => absurd hn (Nat.not_lt_zero n))⟩
                case round =>
                  obtain ⟨nn, rfl, hnn, hPn, hall⟩ := hrel
                  obtain ⟨c0, c1, c2, c3, c4, hbl⟩ := HC.out _ hPn.acts
                  have HPn := Lib.hid hPn
                  clear hPn
                  by_cases hlt : nn < xs.size
                  · have hlti : (nn : Int) < (xs.size : Int) := by omega
                    have hnai : (i' : Int) < (na : Int) := by omega
                    obtain ⟨v2, hv2, N2, b2⟩ : ∃ v2, v2 = (wr.alloc (.cells #[.int .i64 0, .string xn, .int .i64 xa, .string (xs.extract 0 nn)] 41)).drew ∧ Blk v2 wr.heap.size 41 #[.int .i64 0, .string xn, .int .i64 xa, .string (xs.extract 0 nn)] ∧ Below wr.heap.size wr v2 := ⟨_, rfl, Blk.new wr 41 _, below_drew1 ((Below.refl _ wr).alloc (Nat.le_refl _) _)⟩
                    have V2 := Lib.hid hv2
                    have N2h := Lib.hid N2
                    have PV := Lib.hid (HPn.out.below b2)
                    have FQ := Lib.hid (fun W (h : P2 w W E BE i' (some ⟨ba, o, none⟩) ga A R G) => (show Calls Try.prog 16 #[.pointer (some ⟨E, 0, none⟩)] W fun e w' => ∃ p cp, e = .returned (.slice p n0 cp) ∧ Filed w' p X0 ∧ Below W.heap.size W w' from (FIL.out W h).mono fun e w' ⟨p, cp, h1, h2, h3, _⟩ => ⟨p, cp, by rw [h1, HN0.out], h2, h3⟩))
                    obtain ⟨nT, hnT⟩ : ∃ nT, (XT nn).length = nT := ⟨_, rfl⟩
                    have TQ := Lib.hid (fun W p cp (T : Filed W p X0) => (show Calls Try.prog 18 #[.slice p n0 cp, .agg #[.int .i64 0, .string xn, .int .i64 xa, .string (xs.extract 0 nn)]] W fun e w' => ∃ p cp, e = .returned (.slice p nT cp) ∧ Filed w' p (XT nn) ∧ Below W.heap.size W w' from (TN.out HX0.out nn (Nat.le_of_lt hlt) n0 HN0.out W p cp T).mono fun e w' ⟨p, cp, h1, h2, h3, _⟩ => ⟨p, cp, by rw [h1, hnT], h2, h3⟩))
                    have hTl := TL.out nn
                    rw [hnT] at hTl
                    obtain ⟨bb, hbb⟩ : ∃ bb : Bool, (bb = true ∧ XT nn = G) ∨ (bb = false ∧ XT nn ≠ G) := by
                      by_cases h : XT nn = G
                      · exact ⟨true, .inl ⟨rfl, h⟩⟩
                      · exact ⟨false, .inr ⟨rfl, h⟩⟩
                    have SQ := Lib.hid (fun W p cp (T : Filed W p (XT nn)) (TG : Filed W ga G) => (show Calls Try.prog 17 #[.slice p nT cp, .slice ga ng gc] W fun e w' => e = .returned (.bool bb) ∧ Below W.heap.size W w' by
                      rcases hbb with ⟨rfl, h⟩ | ⟨rfl, h⟩
                      · rw [h] at T hnT
                        have e : nT = ng := by rw [← hnT, HNG.out]
                        subst e
                        exact same_any G nT hnT hlg p ga cp gc W T TG
                      · exact same_no (XT nn) G nT ng hnT HNG.out hTl (by omega) p ga cp gc W T TG h))
                    have HBB := Lib.hid hbb
                    clear hv2 N2 b2 hnT hTl hbb
                    go_upto_region 26 with fail
                    go_region
                    go_upto_region 27 with fail
                    rw [← V2.out]
                    have z0 : v2.cell? ⟨wr.heap.size, 0, none⟩ = some (.int .i64 0) := N2h.out.cell 0
                    have z1 : v2.cell? ⟨wr.heap.size, 1, none⟩ = some (.string xn) := N2h.out.cell 1
                    have z2 : v2.cell? ⟨wr.heap.size, 2, none⟩ = some (.int .i64 xa) := N2h.out.cell 2
                    have z3 : v2.cell? ⟨wr.heap.size, 3, none⟩ = some (.string (xs.extract 0 nn)) := N2h.out.cell 3
                    have hlt2 : wr.heap.size < v2.heap.size := N2h.out.lt
                    clear V2 c0 c1 c2 c3 c4 N2h HPn
                    generalize wr.heap.size = Z at *
                    generalize xs.extract 0 nn = xt at *
                    have SS := Lib.hid (show v2.cell? ⟨Z, 0, none⟩ = some (.int .i64 0) ∧ v2.cell? ⟨Z, 1, none⟩ = some (.string xn) ∧ v2.cell? ⟨Z, 2, none⟩ = some (.int .i64 xa) ∧ v2.cell? ⟨Z, 3, none⟩ = some (.string xt) from ⟨z0, z1, z2, z3⟩)
                    clear z0 z1 z2 z3
                    go_region_held3 (fun w' => w'.cell? ⟨Z, 0, none⟩ = some (.int .i64 0) ∧ w'.cell? ⟨Z, 1, none⟩ = some (.string xn) ∧ w'.cell? ⟨Z, 2, none⟩ = some (.int .i64 xa) ∧ w'.cell? ⟨Z, 3, none⟩ = some (.string xt))
                      (first | exact SS.out | exact S1.out | exact S2.out | exact S3.out | assumption)
                      (first
                        | (go_at_call 16; refine (FQ.out _ (PV.out.below (below_drew1 (Below.refl _ _)))).mono ?_; rintro e u1 ⟨p1, cp1, rfl, F1, b1⟩; have F1h := Lib.hid F1; have PU1 := Lib.hid ((PV.out.below (below_drew1 (Below.refl _ _))).below b1); have S1 := Lib.hid (cells4 b1 hlt2 SS.out); have hl1 : Z < u1.heap.size := Nat.lt_of_lt_of_le hlt2 b1.size; clear F1 b1)
                        | (go_at_call 18; refine (TQ.out _ _ _ F1h.out).mono ?_; rintro e u2 ⟨p2, cp2, rfl, F2, b2⟩; have F2h := Lib.hid F2; have PU2 := Lib.hid (PU1.out.below b2); have S2 := Lib.hid (cells4 b2 hl1 S1.out); have hl2 : Z < u2.heap.size := Nat.lt_of_lt_of_le hl1 b2.size; clear F2 b2)
                        | (go_at_call 17; refine (SQ.out _ _ _ F2h.out PU2.out.got).mono ?_; rintro e u3 ⟨rfl, b3⟩; have PU3 := Lib.hid (PU2.out.below b3); have S3 := Lib.hid (cells4 b3 hl2 S2.out); clear b3))
                    all_goals
                      rcases HBB.out with ⟨rfl, _⟩ | ⟨rfl, hne⟩
                      · go_wp2_with fail
                        go_ret
                        exact ⟨rfl, PU3.out.b⟩
                      · have HNE := Lib.hid hne
                        clear hne
                        go_wp2_with fail
                        go_roundw
                        case rel => exact ⟨nn + 1, by go_num, by omega, PU3.out, Lib.hid (fun n hn => by
                          by_cases e : n = nn
                          · rw [e]; exact HNE.out
                          · exact hall.out n (by omega))⟩
                        case measure => simp [intOf]; omega
                  · have hlt' : (xs.size : Int) ≤ nn := by omega
                    go_wp2_with fail
                    go_meet
                    exact ⟨HPn.out, Lib.hid (fun _ n hn => hall.out n (by omega))⟩
              · have h0' : (xk == 0) = false := by simpa using h0
                have H0 := Lib.hid h0
                clear h0
                go_wp2_with fail
                go_meet
                exact ⟨HP.out, Lib.hid (fun h => absurd h H0.out)⟩
            case rest =>
              obtain ⟨hP3, hT⟩ := hcut
              obtain ⟨q0, q1, q2, q3, q4, hbl2⟩ := HC.out _ hP3.acts
              have AC := Lib.hid (ACT.out _ hP3)
              have hb3 := Lib.hid hP3.b
              clear hP3 c0 c1 c2 c3 c4 ACT FIL TN
              go_wp2_with fail
              refine AC.out.mono ?_
              rintro e w12 ⟨v, rfl, p12⟩
              have P12 := Lib.hid p12
              obtain ⟨f1, hx1⟩ := FI1.out _ p12
              have F1C := Lib.hid f1
              clear p12 f1 q0 q1 q2 q3 q4 AC
              go_wp2_with fail
              refine F1C.out.mono ?_
              rintro e w13 ⟨p1, cp1, rfl, F1, b13, _⟩
              have F1h := Lib.hid F1
              have P13 := Lib.hid (P12.out.below b13)
              obtain ⟨n1, hn1⟩ : ∃ n1, X1.length = n1 := ⟨_, rfl⟩
              have HN1 := Lib.hid hn1
              rw [hn1] at hx1 ⊢
              clear F1 b13 hn1 F1C P12
              by_cases hXG : X1 = G
              · subst hXG
                have hng1 : ng = n1 := by rw [← HNG.out, ← HN1.out]
                subst hng1
                have SA := Lib.hid (same_any _ ng HNG.out hx1 p1 ga cp1 gc w13 F1h.out P13.out.got)
                go_wp2_with fail
                refine SA.out.mono ?_
                rintro e wz ⟨rfl, bz⟩
                have BZ := Lib.hid (P13.out.b.trans (bz.mono P13.out.b.size))
                clear bz
                go_wp2_with fail
                go_ret
                exact ⟨rfl, BZ.out⟩
              · have SN2 := Lib.hid (same_no X1 G n1 ng HN1.out HNG.out (by omega) (by omega) p1 ga cp1 gc w13 F1h.out P13.out.got hXG)
                have NN := Lib.hid (NXT.out hXG hT.out)
                clear hXG
                go_wp2_with fail
                refine SN2.out.mono ?_
                rintro e wz ⟨rfl, bz⟩
                have PZ := Lib.hid (P13.out.below bz)
                clear bz
                go_wp2_with fail
                go_roundw
                case rel => exact ⟨i' + 1, by go_num, by omega, PZ.out, NN⟩
                case measure => simp [intOf]; omega
          · obtain rfl : i' = na := by omega
            exact (nots_end HRUN.out HGE.out hg0 (by rw [HNA.out]; exact hNo.out)).elim
end Go.Proofs.Ytejmoaloomnmkaa
