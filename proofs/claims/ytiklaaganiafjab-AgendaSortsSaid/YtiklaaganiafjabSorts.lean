/-
  THE LAW AgendaSorts AS A WALK.
-/
import Derived.Test.YtiklaaganiafjabSrc
namespace Go.Proofs.Ytiklaaganiafjab
open Go.RowKit
theorem ints_cell {w w' : World} {b o : Nat} {xs : List Int} (h : Ints w (some ⟨b, o, none⟩) xs) (hb : Below w.heap.size w w') {k : Nat} (hk : k < xs.length) : w'.cell? ⟨b, o + k, none⟩ = some (.int .i64 (xs.getD k 0)) := by
  obtain ⟨b', o', e, hl, hc⟩ := h k hk
  cases e
  rw [hb.cell (p := ⟨b, _, none⟩) hl, hc, getD_get hk]
theorem ints_addr {w : World} {a : Option Addr} {xs : List Int} (h : Ints w a xs) (hl : 0 < xs.length) : ∃ b o, a = some ⟨b, o, none⟩ ∧ b < w.heap.size := by
  obtain ⟨b, o, e, hb, _⟩ := h 0 hl
  exact ⟨b, o, e, hb⟩
set_option maxHeartbeats 1000000 in
set_option maxRecDepth 100000 in
theorem sorts_big (a : Option Addr) (c : Nat) (xs : List Int) (w : World) (hl : 1000 < xs.length) :
    Calls Try.prog 4 #[.slice a xs.length c] w fun e w' => e = .returned (.bool true) ∧ Below w.heap.size w w' := by
  have hl' : (1000 : Int) < (xs.length : Int) := by omega
  clear hl
  go_enter Try.func4, Try.ntmps4
  go_wp2_with fail
  refine (new_any w w.heap.size).mono ?_
  rintro e w1 ⟨rfl, b1, _, _⟩
  go_wp2_with fail
  refine (awake_any w1).mono ?_
  rintro e w2 ⟨rfl, b2⟩
  have B2 := b1.trans (b2.mono b1.size)
  clear b2
  go_wp2_with fail
  refine (awake_any w2).mono ?_
  rintro e w3 ⟨rfl, b3⟩
  have B3 := B2.trans (b3.mono B2.size)
  clear b3 B2 b1
  go_wp2_with fail
  go_ret
  exact ⟨rfl, B3⟩
set_option maxHeartbeats 4000000 in
set_option maxRecDepth 100000 in
theorem sorts_law (a : Option Addr) (c : Nat) (xs : List Int) (w : World) (hl : xs.length ≤ 1000) (hx : Ints w a xs) :
    Calls Try.prog 4 #[.slice a xs.length c] w fun e w' => e = .returned (.bool true) ∧ Below w.heap.size w w' := by
  have HX := Lib.hid hx
  clear hx
  generalize hn : xs.length = n at *
  have HN := Lib.hid hn
  clear hn
  go_enter Try.func4, Try.ntmps4
  go_wp2_with fail
  refine (new_any w w.heap.size).mono ?_
  rintro e w1 ⟨rfl, b1, _, g1⟩
  have HB1 := Lib.hid b1
  have G1 := Lib.hid g1
  clear b1 g1
  go_wp2_with fail
  refine (awake_any w1).mono ?_
  rintro e w2 ⟨rfl, b2⟩
  have HB2 := Lib.hid (HB1.out.trans (b2.mono HB1.out.size))
  have G2 := Lib.hid (G1.out.below b2)
  clear b2 G1
  have hn0 : (n : Int) ≤ 1000 := by omega
  go_wp2_with fail
  go_loopw [4, 5] (fun m i wr => ∃ (k : Nat) (r : Option Nat) (R : List It) (M : Int), m = .int .i64 M ∧ i = .int .i64 k ∧ k ≤ n ∧ R.Perm (mk xs (fun q => q) k) ∧ (∀ q, q < k → xs.getD q 0 ≤ M) ∧ Agd wr w.heap.size w.heap.size k r R ∧ Tch w2 wr w.heap.size none r) (fun _ i _ => n - (intOf i).toNat)
  case atStart => exact ⟨0, none, [], 0, rfl, rfl, Nat.zero_le _, List.Perm.refl _, fun q hq => by omega, G2.out, Tch.refl _ _ _⟩
  case round =>
    obtain ⟨k, r, R, M, rfl, rfl, hk, hP, hM, hG, hT⟩ := hrel
    have HB := Lib.hid (tch_below HB2.out hT)
    have HG := Lib.hid hG
    have HT := Lib.hid hT
    have HP := Lib.hid hP
    have HM := Lib.hid hM
    have hRl : Hid (R.length = k) := Lib.hid (by rw [hP.length_eq, mk_len])
    clear hG hT hP hM
    by_cases hlt : k < n
    · obtain ⟨b, o, rfl, hbl⟩ := ints_addr HX.out (by rw [HN.out]; omega)
      have hc := ints_cell HX.out HB.out (k := k) (by rw [HN.out]; exact hlt)
      have HADD := Lib.hid (add_any wr w.heap.size w.heap.size k r R (xs.getD k 0) k HG.out (by rw [hRl.out]; omega) (by omega) (by omega) HB.out.size)
      have hT' : Hid (xs.getD k 0 = xs.getD k 0) := rfl
      have FM : Hid (∀ M', (∀ q, q < k → xs.getD q 0 ≤ M') → xs.getD k 0 ≤ M' → ∀ q, q < k + 1 → xs.getD q 0 ≤ M') := Lib.hid (fun M' h1 h2 q hq => by
        by_cases e : q = k
        · subst e; exact h2
        · exact h1 q (by omega))
      have HC : Hid (∀ w', Below w.heap.size w w' → w'.cell? ⟨b, o + k, none⟩ = some (.int .i64 (xs.getD k 0))) := Lib.hid (fun w' h => ints_cell HX.out h (by rw [HN.out]; exact hlt))
      generalize ht : xs.getD k 0 = t at *
      have HTT := Lib.hid ht
      clear ht
      go_wp2_with fail
      refine HADD.out.mono ?_
      rintro e w3 ⟨r3, rfl, g3, t3⟩
      have T3 := Lib.hid (HT.out.trans t3)
      have G3 : Hid (Agd w3 w.heap.size w.heap.size ((k + 1 : Nat) : Int) r3 (ins ⟨t, (k : Int) + 1, k⟩ R)) := Lib.hid g3
      have P3 := Lib.hid (mk_next (f := fun q => q) HP.out HTT.out.symm rfl)
      have c3 := HC.out w3 (tch_below HB2.out T3.out)
      clear g3 t3 hc HADD
      by_cases hk0 : k = 0
      · subst hk0
        have F := Lib.hid (FM.out t (fun q hq => by omega) (Int.le_refl _))
        rw [Nat.add_zero] at c3
        go_wp2_with fail
        go_roundw
        case rel => exact ⟨0 + 1, r3, _, t, rfl, by go_num, by omega, P3.out, F.out, G3.out, T3.out⟩
        case measure => simp [intOf]; omega
      · have z : ((k : Int) == 0) = false := by simp [hk0]
        by_cases hgt : M < t
        · have F := Lib.hid (FM.out t (fun q hq => by have := HM.out q hq; omega) (Int.le_refl _))
          go_wp2_with fail
          go_roundw
          case rel => exact ⟨k + 1, r3, _, t, rfl, by go_num, by omega, P3.out, F.out, G3.out, T3.out⟩
          case measure => simp [intOf]; omega
        · have hgt' : t ≤ M := by omega
          have F := Lib.hid (FM.out M HM.out hgt')
          clear hgt
          go_wp2_with fail
          go_roundw
          case rel => exact ⟨k + 1, r3, _, M, rfl, by go_num, by omega, P3.out, F.out, G3.out, T3.out⟩
          case measure => simp [intOf]; omega
    · obtain rfl : k = n := by omega
      go_wp2_with fail
      refine (due_any wr w.heap.size w.heap.size _ r R M HG.out (by rw [hRl.out]; omega)).mono ?_
      rintro e w3 ⟨v, X, R', r3, rfl, hR, hX1, hX2, g3, t3, o3, n3⟩
      have hnil : R' = [] := by
        refine List.eq_nil_iff_forall_not_mem.2 (fun y hy => ?_)
        have h1 := hX2 y hy
        obtain ⟨q, hq, e⟩ := mk_mem.1 (HP.out.mem_iff.1 (by rw [hR]; exact List.mem_append.2 (.inr hy)))
        have h2 := HM.out q hq
        rw [e] at h1
        simp only at h1
        omega
      subst hnil
      rw [List.append_nil] at hR
      subst hR
      obtain ⟨va, vc, hv⟩ := own_slice o3
      have hXl := hRl.out
      rw [hXl] at hv
      subst hv
      have T3 := Lib.hid (HT.out.trans t3)
      generalize wr.heap.size = B0 at o3
      have O3 := Lib.hid o3
      have G3 := Lib.hid g3
      have HID := Lib.hid HG.out.ids
      have HSO := Lib.hid HG.out.sorted
      have N3 := Lib.hid n3
      have HV : Hid (∀ q, (Value.slice va k vc).ownBlock = some q → q < w3.heap.size) := Lib.hid (fun q hq => (o3.lt q hq).2)
      obtain ⟨i4, hi, hz0, hz1, hz2⟩ := info_parts info4
      clear hX1 hX2 g3 t3 o3 n3 hXl HM HG HT
      go_wp2_with (at_make; refine wpList_make_full _ rfl (.tmp 67) (.tmp 67) 44 rfl w.heap.size 4 i4 (.bool false) 1 Try.underlying44 hi hz0 hz1 .i64 .i64 k k k rfl rfl rfl rfl (by rw [hz2]; omega) (by unfold maxLen; omega) (tch_below HB2.out T3.out).size ?_; intro w4 ho4 hg4)
      have F4 := Lib.hid (flg_made ho4)
      have B4 : Hid (Below w.heap.size w w4) := Lib.hid ((tch_below HB2.out T3.out).trans ((⟨hg4.os, hg4.tape, hg4.output, hg4.size, fun q hq => hg4.block q hq (by simp)⟩ : Below w3.heap.size w3 w4).mono (tch_below HB2.out T3.out).size))
      have G4 := Lib.hid (G3.out.grown hg4 (by simp) (.inl rfl))
      have O4 := Lib.hid (World.ownsRow.kept O3.out hg4 (by cases (Value.slice va k vc).ownBlock <;> simp))
      have hAS : Hid (w.heap.size ≠ w3.heap.size) := Lib.hid (by have := G3.out.lt.1; omega)
      have hrS : Hid (∀ q, r3 = some q → q < w3.heap.size) := Lib.hid (fun q hq => (G3.out.lt.2.1 q hq).2)
      generalize w3.heap.size = S at *
      clear ho4 hg4 O3 G3 T3
      go_wp2_with fail
      go_loopw [10] (fun i wq => ∃ (p : Nat) (f : Nat → Bool), i = .int .i64 p ∧ p ≤ k ∧ SInv w wq k r3 [] B0 (.slice va k vc) R S k f ∧ (∀ j, f j = true ↔ ∃ p', p' < p ∧ (at_ R p').x = j)) (fun i _ => k - (intOf i).toNat)
      case atStart => exact ⟨0, fun _ => false, rfl, Nat.zero_le _, ⟨B4.out, G4.out, O4.out, F4.out⟩, fun j => ⟨fun h => by simp at h, fun ⟨p', h, _⟩ => by omega⟩⟩
      case round =>
        obtain ⟨p, f, rfl, hp, hinv, hf⟩ := hrel
        have hB := hinv.b
        have hO := hinv.o
        have hF := hinv.f
        by_cases hpk : p < k
        · have hpR : p < R.length := by rw [hRl.out]; exact hpk
          obtain ⟨g, cap', hv, _, hgl⟩ := hO.form (by omega)
          rw [hRl.out] at hv
          simp only [Value.slice.injEq] at hv
          obtain ⟨rfl, _, rfl⟩ := hv
          have hrow : RowG wr B0 g vc R := by unfold RowG; rw [hRl.out]; rw [hRl.out] at hO; exact hO
          obtain ⟨q, hq, hxe⟩ := mk_mem.1 (HP.out.mem_iff.1 (List.getElem_mem hpR))
          obtain ⟨b, o, rfl, hbl⟩ := ints_addr HX.out (by rw [HN.out]; omega)
          have c1 := (hrow.cell hpR).1
          have c2 := (hrow.cell hpR).2.1
          have c3 := (hrow.cell hpR).2.2
          rw [hxe] at c1 c2 c3
          have cl := ints_cell HX.out hB (k := q) (by rw [HN.out]; exact hq)
          have cs := hF.cell hq
          have fs := hF.free q
          have hfq : f q = false := by
            rw [← Bool.not_eq_true]
            rintro h
            obtain ⟨p', hp', e⟩ := (hf q).1 h
            have hp'R : p' < R.length := by omega
            rw [at_get hp'R] at e
            obtain ⟨q', hq', hxe'⟩ := mk_mem.1 (HP.out.mem_iff.1 (List.getElem_mem hp'R))
            rw [hxe'] at e
            simp only at e
            have := ids_ne HID.out hp' hpR
            rw [hxe, hxe'] at this
            simp only at this
            omega
          rw [hfq] at cs
          have hgS : Hid (g ≠ S) := Lib.hid (by have := HV.out g rfl; omega)
          have hq' : (q : Int) < (k : Int) := by omega
          generalize ht : xs.getD q 0 = t at *
          clear ht
          have HI := Lib.hid hinv
          have Hf := Lib.hid hf
          have ltS : S < wr.heap.size := hF.lt
          have ltb : b < wr.heap.size := Nat.lt_of_lt_of_le hbl hB.size
          have HXE := Lib.hid hxe
          clear hB hO hF hf hrow hinv hxe hfq
          go_wp2_with fail
          obtain ⟨w5, hw5⟩ : ∃ w5 : World, w5 = wr.alloc (Obj.cells #[Value.int IntKind.i64 t, Value.int IntKind.i64 ((q : Int) + 1), Value.int IntKind.i64 q] 46) := ⟨_, rfl⟩
          rw [← hw5]
          have b5 : Below wr.heap.size wr w5 := by rw [hw5]; exact (Below.refl _ _).alloc (Nat.le_refl _) _
          have x0 : w5.cell? ⟨wr.heap.size, 0, none⟩ = some (.int .i64 t) := by rw [hw5]; go_simp
          have x1 : w5.cell? ⟨wr.heap.size, 1, none⟩ = some (.int .i64 ((q : Int) + 1)) := by rw [hw5]; go_simp
          have x2 : w5.cell? ⟨wr.heap.size, 2, none⟩ = some (.int .i64 q) := by rw [hw5]; go_simp
          have cl5 : w5.cell? ⟨b, o + q, none⟩ = some (.int .i64 t) := by rw [b5.cell (p := ⟨b, _, none⟩) ltb]; exact cl
          have cs5 : w5.cell? ⟨S, q, none⟩ = some (.bool false) := by rw [b5.cell (p := ⟨S, _, none⟩) ltS]; exact cs
          have I5 := Lib.hid (HI.out.below b5)
          have lt5 : wr.heap.size < w5.heap.size := World.block_lt_of_cell? _ _ x0
          generalize wr.heap.size = bx at *
          have nbS : bx ≠ S := by omega
          clear hw5 b5 HI c1 c2 c3 cl cs fs ltb
          have hq0 : (0 : Int) ≤ (q : Int) := by omega
          have hwq : IntKind.i64.wrap (q : Int) = q := IntWalk.i64_in _ (by omega)
          have hne : ((q : Int) != (q : Int)) = false := by simp
          go_quiet (fail)
          clear hwq hne
          obtain ⟨w6, hw6⟩ : ∃ w6 : World, w6 = w5.drewN nq := ⟨_, rfl⟩
          rw [← hw6]
          have I6 : Hid (SInv w w6 k r3 [] B0 (.slice (some ⟨g, 0, none⟩) k vc) R S k f) := Lib.hid (I5.out.below (by rw [hw6]; exact below_drewN (Below.refl _ _) _))
          have y0 : w6.cell? ⟨bx, 0, none⟩ = some (.int .i64 t) := by rw [hw6]; exact x0
          have y1 : w6.cell? ⟨bx, 1, none⟩ = some (.int .i64 ((q : Int) + 1)) := by rw [hw6]; exact x1
          have y2 : w6.cell? ⟨bx, 2, none⟩ = some (.int .i64 q) := by rw [hw6]; exact x2
          have cs6 : w6.cell? ⟨S, q, none⟩ = some (.bool false) := by rw [hw6]; exact cs5
          have fs6 := I6.out.f.free q
          clear hw6 I5 x0 x1 x2 cl5 cs5
          go_wp2_with fail
          obtain ⟨w7, hw7⟩ : ∃ w7 : World, w7 = w6.setCell ⟨S, q, none⟩ (.bool true) := ⟨_, rfl⟩
          rw [← hw7]
          have hrS' : some S ≠ r3 := fun e => by have := hrS.out S e.symm; omega
          have I7 : Hid (SInv w w7 k r3 [] B0 (.slice (some ⟨g, 0, none⟩) k vc) R S k (fun j => j == q || f j)) := Lib.hid (by rw [hw7]; exact I6.out.put q hAS.out hrS' (by simp [Value.ownBlock]; exact hgS.out))
          have z0 : w7.cell? ⟨bx, 0, none⟩ = some (.int .i64 t) := by rw [hw7, World.cell?_setCell_other _ _ _ _ (by simp)]; exact y0
          have z1 : w7.cell? ⟨bx, 1, none⟩ = some (.int .i64 ((q : Int) + 1)) := by rw [hw7, World.cell?_setCell_other _ _ _ _ (by simp)]; exact y1
          have Hf7 : Hid (∀ j, (fun j => j == q || f j) j = true ↔ ∃ p', p' < p + 1 ∧ (at_ R p').x = j) := Lib.hid (fun j => by
            have hfj := Hf.out j
            have hxp : (at_ R p).x = (q : Int) := by rw [at_get hpR, HXE.out]
            simp only [Bool.or_eq_true, beq_iff_eq]
            constructor
            · rintro (e | e)
              · exact ⟨p, by omega, by rw [hxp, e]⟩
              · obtain ⟨p', h1, h2⟩ := hfj.1 e
                exact ⟨p', by omega, h2⟩
            · rintro ⟨p', h1, h2⟩
              by_cases e : p' = p
              · subst e
                rw [hxp] at h2
                exact .inl (by omega)
              · exact .inr (hfj.2 ⟨p', by omega, h2⟩))
          clear hw7 y0 y1 y2 cs6 fs6 I6
          by_cases hp0 : p = 0
          · subst hp0
            go_quiet (fail)
            have I8 := Lib.hid (I7.out.below (below_drewN (Below.refl _ _) nq))
            go_wp2_with fail
            go_roundw
            case rel => exact ⟨0 + 1, _, by go_num, by omega, I8.out, Hf7.out⟩
            case measure => simp [intOf]; omega
          · have hp1R : p - 1 < R.length := by omega
            have hrow7 : RowG w7 B0 g vc R := by
              have h7 := I7.out.o
              unfold RowG
              rw [hRl.out]
              rw [hRl.out] at h7
              exact h7
            have e1 := (hrow7.cell hp1R).1
            have e2 := (hrow7.cell hp1R).2.1
            have hsl := sorted_lt HSO.out (p := p - 1) (q := p) (by omega) hpR
            rw [HXE.out] at hsl
            have hpp : (1 : Int) ≤ (p : Int) := by omega
            have hgt0 : decide ((0 : Int) < (p : Int)) = true := by simp; omega
            have hgtN : decide (0 < p) = true := by simp; omega
            have hgtP : 0 < p := by omega
            have hwp : IntKind.i64.wrap ((p : Int) - 1) = (p : Int) - 1 := IntWalk.i64_in _ (by omega)
            have hnp : ((p : Int) - 1).toNat = p - 1 := by omega
            have hpl : (p : Int) - 1 < (k : Int) := by omega
            have hp0' : (0 : Int) ≤ (p : Int) - 1 := by omega
            unfold It.lt at hsl
            simp only at hsl
            generalize R[p - 1].t = t' at *
            generalize R[p - 1].i = i' at *
            clear hrow7
            rcases hsl with h | ⟨h, h'⟩
            · have d1 : decide (t < t') = false := by simp; omega
              have d2 : (t' == t) = false := by simp; omega
              clear h
              go_quiet (fail)
              have I8 := Lib.hid (I7.out.below (below_drewN (Below.refl _ _) nq))
              clear hwp hnp
              go_wp2_with fail
              go_roundw
              case rel => exact ⟨p + 1, _, by go_num, by omega, I8.out, Hf7.out⟩
              case measure => simp [intOf]; omega
            · subst h
              have d3 : decide ((q : Int) + 1 ≤ i') = false := by simp; omega
              have d1 : decide (t' < t') = false := by simp
              clear h'
              go_quiet (fail)
              have I8 := Lib.hid (I7.out.below (below_drewN (Below.refl _ _) nq))
              clear hwp hnp
              go_wp2_with fail
              go_roundw
              case rel => exact ⟨p + 1, _, by go_num, by omega, I8.out, Hf7.out⟩
              case measure => simp [intOf]; omega
        · obtain rfl : p = k := by omega
          have HI := Lib.hid hinv
          clear hB hO hF hf hinv
          go_wp2_with fail
          refine (len_any wr w.heap.size w.heap.size _ r3 [] HI.out.g).mono ?_
          rintro e w5 ⟨rfl, rfl⟩
          go_wp2_with fail
          go_ret
          exact ⟨by simp, HI.out.b⟩
theorem sorts_any (a : Option Addr) (c : Nat) (xs : List Int) (w : World) (hx : Ints w a xs) :
    Calls Try.prog 4 #[.slice a xs.length c] w fun e w' => e = .returned (.bool true) ∧ Below w.heap.size w w' := by
  by_cases h : xs.length ≤ 1000
  · exact sorts_law a c xs w h hx
  · exact sorts_big a c xs w (by omega)
end Go.Proofs.Ytiklaaganiafjab
