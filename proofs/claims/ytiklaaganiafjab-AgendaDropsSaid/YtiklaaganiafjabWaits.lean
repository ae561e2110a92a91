/-
  THE LAW AgendaWaits AS A WALK.
-/
import Derived.Test.YtiklaaganiafjabSrc
namespace Go.Proofs.Ytiklaaganiafjab
open Go.RowKit
theorem ints_cell {w w' : World} {b o : Nat} {xs : List Int} (h : Ints w (some ⟨b, o, none⟩) xs) (hb : Below w.heap.size w w') {k : Nat} (hk : k < xs.length) : w'.cell? ⟨b, o + k, none⟩ = some (.int .i64 (xs.getD k 0)) := by
  obtain ⟨b', o', e, hl, hc⟩ := h k hk
  cases e
  rw [hb.cell (p := ⟨b, _, none⟩) hl, hc, getD_get hk]
theorem ints_addr {w : World} {a : Option Addr} {xs : List Int} (h : Ints w a xs) (hl : 0 < xs.length) : ∃ b o, a = some ⟨b, o, none⟩ ∧ b < w.heap.size := by
  obtain ⟨b, o, e, hb, _⟩ := h 0 hl
  exact ⟨b, o, e, hb⟩
set_option maxHeartbeats 1000000 in
set_option maxRecDepth 100000 in
theorem waits_big (a a' : Option Addr) (c c' : Nat) (n m : Nat) (w : World) (hl : 200 < n ∨ n ≤ 200 ∧ 200 < m) :
    Calls Try.prog 5 #[.slice a n c, .slice a' m c'] w fun e w' => e = .returned (.bool true) ∧ Below w.heap.size w w' := by
  rcases hl with hl | ⟨hl1, hl⟩
  · have hl' : (200 : Int) < (n : Int) := by omega
    clear hl
    go_enter Try.func5, Try.ntmps5
    go_wp2_with fail
    refine (new_any w w.heap.size).mono ?_
    rintro e w1 ⟨rfl, b1, _, _⟩
    go_wp2_with fail
    refine (awake_any w1).mono ?_
    rintro e w2 ⟨rfl, b2⟩
    have B2 := b1.trans (b2.mono b1.size)
    clear b2
    go_wp2_with fail
    refine (awake_any w2).mono ?_
    rintro e w3 ⟨rfl, b3⟩
    have B3 := B2.trans (b3.mono B2.size)
    clear b3 B2 b1
    go_wp2_with fail
    go_ret
    exact ⟨rfl, B3⟩
  · have hl' : (200 : Int) < (m : Int) := by omega
    have hl2 : (n : Int) ≤ (200 : Int) := by omega
    clear hl hl1
    go_enter Try.func5, Try.ntmps5
    go_wp2_with fail
    refine (new_any w w.heap.size).mono ?_
    rintro e w1 ⟨rfl, b1, _, _⟩
    go_wp2_with fail
    refine (awake_any w1).mono ?_
    rintro e w2 ⟨rfl, b2⟩
    have B2 := b1.trans (b2.mono b1.size)
    clear b2
    go_wp2_with fail
    refine (awake_any w2).mono ?_
    rintro e w3 ⟨rfl, b3⟩
    have B3 := B2.trans (b3.mono B2.size)
    clear b3 B2 b1
    go_wp2_with fail
    go_ret
    exact ⟨rfl, B3⟩
/-- while times go by: who is not told is still there, and each who is there was added -/
def WInv (xs : List Int) (n : Nat) (f : Nat → Bool) (R : List It) : Prop :=
  (∀ q, q < n → (f q = false ↔ ∃ x ∈ R, x.i = (q : Int) + 1)) ∧ (∀ x ∈ R, ∃ q, q < n ∧ x.t = xs.getD q 0 ∧ x.i = (q : Int) + 1)
theorem winv_start {xs : List Int} {n : Nat} {R : List It} (h : R.Perm (mk xs (fun _ => 0) n)) : WInv xs n (fun _ => false) R := by
  refine ⟨fun q hq => ⟨fun _ => ⟨_, h.mem_iff.2 (mk_mem.2 ⟨q, hq, rfl⟩), rfl⟩, fun _ => rfl⟩, fun x hx => ?_⟩
  obtain ⟨q, hq, e⟩ := mk_mem.1 (h.mem_iff.1 hx)
  subst e
  exact ⟨q, hq, rfl, rfl⟩
/-- flags while the due ones are looked through -/
def MInv (f f' : Nat → Bool) (X : List It) (p : Nat) : Prop := ∀ j, f' j = true ↔ f j = true ∨ ∃ p', p' < p ∧ (at_ X p').i = (j : Int) + 1
theorem winv_next {xs : List Int} {n : Nat} {f f' : Nat → Bool} {X R : List It} (h : WInv xs n f (X ++ R)) (hd : (X ++ R).Pairwise (fun x y => x.i ≠ y.i)) (hm : MInv f f' X X.length) : WInv xs n f' R := by
  refine ⟨fun q hq => ?_, fun x hx => h.2 x (List.mem_append.2 (.inr hx))⟩
  have h1 := h.1 q hq
  have h2 := hm q
  constructor
  · intro hf
    have hnf : ¬ f q = true := fun e => by have := h2.2 (.inl e); rw [hf] at this; cases this
    obtain ⟨x, hx, e⟩ := h1.1 (by simpa using hnf)
    rcases List.mem_append.1 hx with hx | hx
    · obtain ⟨p', hp', e'⟩ := List.getElem_of_mem hx
      have := h2.2 (.inr ⟨p', hp', by rw [at_get hp', e', e]⟩)
      rw [hf] at this; cases this
    · exact ⟨x, hx, e⟩
  · rintro ⟨x, hx, e⟩
    rw [← Bool.not_eq_true]
    intro hf
    rcases h2.1 hf with hf | ⟨p', hp', e'⟩
    · have := h1.2 ⟨x, List.mem_append.2 (.inr hx), e⟩
      rw [hf] at this; cases this
    · rw [at_get hp'] at e'
      exact (List.pairwise_append.1 hd).2.2 _ (List.getElem_mem hp') x hx (by rw [e', e])
set_option maxHeartbeats 8000000 in
set_option maxRecDepth 100000 in
theorem waits_law (a a' : Option Addr) (c c' : Nat) (xs ys : List Int) (w : World) (hl : xs.length ≤ 200) (hl' : ys.length ≤ 200) (hx : Ints w a xs) (hy : Ints w a' ys) :
    Calls Try.prog 5 #[.slice a xs.length c, .slice a' ys.length c'] w fun e w' => e = .returned (.bool true) ∧ Below w.heap.size w w' := by
  have HX := Lib.hid hx
  have HY := Lib.hid hy
  clear hx hy
  generalize hn : xs.length = n at *
  generalize hm : ys.length = m at *
  have HN := Lib.hid hn
  have HM := Lib.hid hm
  clear hn hm
  have hn0 : (n : Int) ≤ 200 := by omega
  have hm0 : (m : Int) ≤ 200 := by omega
  go_enter Try.func5, Try.ntmps5
  go_wp2_with fail
  refine (new_any w w.heap.size).mono ?_
  rintro e w1 ⟨rfl, b1, _, g1⟩
  have HB1 := Lib.hid b1
  have G1 := Lib.hid g1
  clear b1 g1
  go_wp2_with fail
  refine (awake_any w1).mono ?_
  rintro e w2 ⟨rfl, b2⟩
  have HB2 := Lib.hid (HB1.out.trans (b2.mono HB1.out.size))
  have G2 := Lib.hid (G1.out.below b2)
  clear b2 G1 HB1
  obtain ⟨i4, hi, hz0, hz1, hz2⟩ := info_parts info4
  go_wp2_with (at_make; refine wpList_make_full _ rfl (.tmp 32) (.tmp 32) 44 rfl w.heap.size 4 i4 (.bool false) 1 Try.underlying44 hi hz0 hz1 .i64 .i64 n n n rfl rfl rfl rfl (by rw [hz2]; omega) (by unfold maxLen; omega) HB2.out.size ?_; intro w4 ho4 hg4)
  have F4 := Lib.hid (flg_made ho4)
  have B24 : Hid (Below w2.heap.size w2 w4) := Lib.hid ⟨hg4.os, hg4.tape, hg4.output, hg4.size, fun q hq => hg4.block q hq (by simp)⟩
  have B4 : Hid (Below w.heap.size w w4) := Lib.hid (HB2.out.trans (B24.out.mono HB2.out.size))
  have G4 := Lib.hid (G2.out.below B24.out)
  have hAS : Hid (w.heap.size ≠ w2.heap.size) := Lib.hid (by have := G2.out.lt.1; omega)
  have hSB : Hid (w.heap.size ≤ w2.heap.size) := Lib.hid HB2.out.size
  generalize w2.heap.size = S at *
  clear ho4 hg4 G2 B24 HB2
  go_wp2_with fail
  go_loopw [7] (fun i wq => ∃ (k : Nat) (r : Option Nat) (R : List It), i = .int .i64 k ∧ k ≤ n ∧ R.Perm (mk xs (fun _ => 0) k) ∧ Agd wq w.heap.size w.heap.size k r R ∧ Flg wq w.heap.size S n (fun _ => false) ∧ some S ≠ r ∧ Below w.heap.size w wq) (fun i _ => n - (intOf i).toNat)
  case atStart => exact ⟨0, none, [], rfl, Nat.zero_le _, List.Perm.refl _, G4.out, F4.out, by simp, B4.out⟩
  case round =>
    obtain ⟨k, r, R, rfl, hk, hP, hG, hF, hS, hB⟩ := hrel
    have HB := Lib.hid hB
    have HG := Lib.hid hG
    have HF := Lib.hid hF
    have HS := Lib.hid hS
    have HP := Lib.hid hP
    have hRl : Hid (R.length = k) := Lib.hid (by rw [hP.length_eq, mk_len])
    clear hG hF hS hB hP
    by_cases hlt : k < n
    · obtain ⟨b, o, rfl, hbl⟩ := ints_addr HX.out (by rw [HN.out]; omega)
      have hc := ints_cell HX.out HB.out (k := k) (by rw [HN.out]; exact hlt)
      have HADD := Lib.hid (add_any wr w.heap.size w.heap.size k r R (xs.getD k 0) 0 HG.out (by rw [hRl.out]; omega) (by omega) (by omega) HB.out.size)
      generalize ht : xs.getD k 0 = t at *
      have HTT := Lib.hid ht
      clear ht
      go_wp2_with fail
      refine HADD.out.mono ?_
      rintro e w3 ⟨r3, rfl, g3, t3⟩
      have G3 : Hid (Agd w3 w.heap.size w.heap.size ((k + 1 : Nat) : Int) r3 (ins ⟨t, (k : Int) + 1, 0⟩ R)) := Lib.hid g3
      have P3 := Lib.hid (mk_next (f := fun _ => 0) HP.out HTT.out.symm rfl)
      have F3 := Lib.hid (HF.out.tch t3 (fun e => hAS.out e.symm) HS.out)
      have S3 : Hid (some S ≠ r3) := Lib.hid (by
        rcases t3.own with e | ⟨q, e, hq⟩
        · rw [e]; exact HS.out
        · rw [e]; intro e'; have := HF.out.lt; simp at e'; omega)
      have B3 : Hid (Below w.heap.size w w3) := Lib.hid ⟨t3.os.trans HB.out.os, t3.tape.trans HB.out.tape, t3.output.trans HB.out.output, Nat.le_trans HB.out.size t3.size, fun q hq => (t3.block q (Nat.lt_of_lt_of_le hq HB.out.size) (by omega) (fun e => by have := (HG.out.lt.2.1 q e.symm).1; omega)).trans (HB.out.block q hq)⟩
      clear g3 t3 hc HADD
      go_wp2_with fail
      go_roundw
      case rel => exact ⟨k + 1, r3, _, by go_num, by omega, P3.out, G3.out, F3.out, S3.out, B3.out⟩
      case measure => simp [intOf]; omega
    · obtain rfl : k = n := by omega
      have HW := Lib.hid (winv_start HP.out)
      clear G4 F4 B4
      go_wp2_with fail
      go_loopw [8] (fun i wq => ∃ (j : Nat) (r : Option Nat) (R : List It) (f : Nat → Bool), i = .int .i64 j ∧ j ≤ m ∧ WInv xs k f R ∧ R.length ≤ 4096 ∧ Agd wq w.heap.size w.heap.size k r R ∧ Flg wq w.heap.size S k f ∧ some S ≠ r ∧ Below w.heap.size w wq) (fun i _ => m - (intOf i).toNat)
      case atStart => exact ⟨0, r, R, _, rfl, Nat.zero_le _, HW.out, by rw [hRl.out]; omega, HG.out, HF.out, HS.out, HB.out⟩
      case round =>
        obtain ⟨j, r, R, f, rfl, hj, hW, hRs, hG, hF, hS, hB⟩ := hrel
        clear HW HG HF HS HB HP hRl
        have HB := Lib.hid hB
        have HG := Lib.hid hG
        have HF := Lib.hid hF
        have HS := Lib.hid hS
        have HW := Lib.hid hW
        have HRs := Lib.hid hRs
        clear hG hF hS hB hW hRs
        by_cases hjm : j < m
        · obtain ⟨b', o', rfl, hbl'⟩ := ints_addr HY.out (by rw [HM.out]; omega)
          have hc := ints_cell HY.out HB.out (k := j) (by rw [HM.out]; exact hjm)
          have HCY : Hid (∀ w', Below w.heap.size w w' → w'.cell? ⟨b', o' + j, none⟩ = some (.int .i64 (ys.getD j 0))) := Lib.hid (fun w' h => ints_cell HY.out h (by rw [HM.out]; exact hjm))
          generalize ys.getD j 0 = now at *
          have HDU := Lib.hid (due_any wr w.heap.size w.heap.size _ r R now HG.out HRs.out)
          go_wp2_with fail
          refine HDU.out.mono ?_
          rintro e w3 ⟨v, X, R', r3, rfl, hR, hX1, hX2, g3, t3, o3, n3⟩
          subst hR
          have F3 := Lib.hid (HF.out.tch t3 (fun e => hAS.out e.symm) HS.out)
          have S3 : Hid (some S ≠ r3) := Lib.hid (by
            rcases t3.own with e | ⟨q, e, hq⟩
            · rw [e]; exact HS.out
            · rw [e]; intro e'; have := HF.out.lt; simp at e'; omega)
          have B3 : Hid (Below w.heap.size w w3) := Lib.hid ⟨t3.os.trans HB.out.os, t3.tape.trans HB.out.tape, t3.output.trans HB.out.output, Nat.le_trans HB.out.size t3.size, fun q hq => (t3.block q (Nat.lt_of_lt_of_le hq HB.out.size) (by omega) (fun e => by have := (HG.out.lt.2.1 q e.symm).1; omega)).trans (HB.out.block q hq)⟩
          have hvS : Hid (v.ownBlock ≠ some S) := Lib.hid (fun e => by have := (o3.lt S e).1; have := HF.out.lt; omega)
          obtain ⟨va, vc, hv⟩ := own_slice o3
          subst hv
          generalize wr.heap.size = B0 at o3
          have I3 : Hid (SInv w w3 k r3 R' B0 (.slice va X.length vc) X S k f) := Lib.hid ⟨B3.out, g3, o3, F3.out⟩
          have HID := Lib.hid HG.out.ids
          have HX1 := Lib.hid hX1
          have HX2 := Lib.hid hX2
          have HXl : Hid (X.length ≤ 4096) := Lib.hid (by have := HRs.out; rw [List.length_append] at this; omega)
          have hXl := HXl.out
          have HRl : Hid (R'.length ≤ 4096) := Lib.hid (by have := HRs.out; rw [List.length_append] at this; omega)
          clear hX1 hX2 g3 t3 o3 n3 B3 F3 HDU hc HG HF HB HS HRs
          go_wp2_with fail
          go_loopw [10] (fun i wq => ∃ (p : Nat) (f' : Nat → Bool), i = .int .i64 p ∧ p ≤ X.length ∧ SInv w wq k r3 R' B0 (.slice va X.length vc) X S k f' ∧ MInv f f' X p) (fun i _ => X.length - (intOf i).toNat)
          case atStart => exact ⟨0, f, rfl, Nat.zero_le _, I3.out, fun q => ⟨fun h => .inl h, fun h => by rcases h with h | ⟨p', h, _⟩; exact h; omega⟩⟩
          case round =>
            obtain ⟨p, f', rfl, hp, hinv, hmi⟩ := hrel
            have HI := Lib.hid hinv
            have HMI := Lib.hid hmi
            clear hinv hmi I3
            by_cases hpX : p < X.length
            · obtain ⟨g, cap', hv, _, hgl⟩ := HI.out.o.form (by omega)
              simp only [Value.slice.injEq, true_and] at hv
              obtain ⟨rfl, rfl⟩ := hv
              have hrow : RowG wr B0 g vc X := HI.out.o
              obtain ⟨q, hq, hqt, hqi⟩ := HW.out.2 X[p] (List.mem_append.2 (.inl (List.getElem_mem hpX)))
              obtain ⟨b, o, rfl, hbl⟩ := ints_addr HX.out (by rw [HN.out]; omega)
              have c2 := (hrow.cell hpX).2.1
              rw [hqi] at c2
              have cl := ints_cell HX.out HI.out.b (k := q) (by rw [HN.out]; exact hq)
              have cy := HCY.out wr HI.out.b
              have cs := HI.out.f.cell hq
              have fs := HI.out.f.free q
              have hfq : f' q = false := by
                rw [← Bool.not_eq_true]
                intro h
                rcases (HMI.out q).1 h with h | ⟨p', hp', e⟩
                · have := (HW.out.1 q hq).2 ⟨X[p], List.mem_append.2 (.inl (List.getElem_mem hpX)), hqi⟩
                  rw [h] at this; cases this
                · rw [at_get (by omega)] at e
                  exact ids_ne (List.pairwise_append.1 HID.out).1 hp' hpX (by rw [e, hqi])
              rw [hfq] at cs
              have hle : xs.getD q 0 ≤ now := by rw [← hqt]; exact HX1.out _ (List.getElem_mem hpX)
              have hq' : (q : Int) < (k : Int) := by omega
              have hq0 : (0 : Int) ≤ (q : Int) := by omega
              generalize xs.getD q 0 = t at *
              have HM2 : Hid (MInv f (fun z => z == q || f' z) X (p + 1)) := Lib.hid (fun z => by
                have hz := HMI.out z
                simp only [Bool.or_eq_true, beq_iff_eq]
                constructor
                · rintro (e | e)
                  · exact .inr ⟨p, by omega, by rw [at_get hpX, hqi, e]⟩
                  · rcases hz.1 e with h | ⟨p', h1, h2⟩
                    · exact .inl h
                    · exact .inr ⟨p', by omega, h2⟩
                · rintro (h | ⟨p', h1, h2⟩)
                  · exact .inr (hz.2 (.inl h))
                  · by_cases e : p' = p
                    · subst e
                      rw [at_get hpX, hqi] at h2
                      exact .inl (by omega)
                    · exact .inr (hz.2 (.inr ⟨p', by omega, h2⟩)))
              have hle' : decide (now < t) = false := by simp; omega
              clear hrow hqt hqi hfq
              go_wp2_with fail
              go_quiet (fail)
              obtain ⟨w6, hw6⟩ : ∃ w6 : World, w6 = wr.drewN nq := ⟨_, rfl⟩
              rw [← hw6]
              have I6 : Hid (SInv w w6 k r3 R' B0 (.slice (some ⟨g, 0, none⟩) X.length vc) X S k f') := Lib.hid (HI.out.below (by rw [hw6]; exact below_drewN (Below.refl _ _) _))
              have cs6 : w6.cell? ⟨S, q, none⟩ = some (.bool false) := by rw [hw6]; exact cs
              have fs6 := I6.out.f.free q
              clear hw6 c2 cl cy cs fs
              go_wp2_with fail
              go_roundw
              case rel => exact ⟨p + 1, _, by go_num, by omega, I6.out.put q hAS.out S3.out hvS.out, HM2.out⟩
              case measure => simp [intOf]; omega
            · obtain rfl : p = X.length := by omega
              have HW2 := Lib.hid (winv_next HW.out HID.out HMI.out)
              go_wp2_with fail
              go_loopw [12] (fun i wq => ∃ (z : Nat), i = .int .i64 z ∧ z ≤ k ∧ SInv w wq k r3 R' B0 (.slice va X.length vc) X S k f') (fun i _ => k - (intOf i).toNat)
              case atStart => exact ⟨0, rfl, Nat.zero_le _, HI.out⟩
              case round =>
                obtain ⟨z, rfl, hz, hinv⟩ := hrel
                have HI2 := Lib.hid hinv
                clear hinv HI
                by_cases hzk : z < k
                · obtain ⟨b, o, rfl, hbl⟩ := ints_addr HX.out (by rw [HN.out]; omega)
                  have cl := ints_cell HX.out HI2.out.b (k := z) (by rw [HN.out]; exact hzk)
                  have cy := HCY.out wr HI2.out.b
                  have cs := HI2.out.f.cell hzk
                  have hnot : f' z = true ∨ f' z = false ∧ now < xs.getD z 0 := by
                    by_cases e : f' z = true
                    · exact .inl e
                    · have e : f' z = false := by simpa using e
                      obtain ⟨x, hx, hxi⟩ := (HW2.out.1 z hzk).1 e
                      obtain ⟨q, hq, hqt, hqi⟩ := HW2.out.2 x hx
                      have : q = z := by omega
                      subst this
                      have := HX2.out x hx
                      exact .inr ⟨e, by rw [← hqt]; exact this⟩
                  generalize xs.getD z 0 = t at *
                  rcases hnot with h | ⟨h, h2⟩
                  · rw [h] at cs
                    clear h
                    go_wp2_with fail
                    go_quiet (fail)
                    have I5 := Lib.hid (HI2.out.below (below_drewN (Below.refl _ _) nq))
                    clear cl cy cs
                    go_wp2_with fail
                    go_roundw
                    case rel => exact ⟨z + 1, by go_num, by omega, I5.out⟩
                    case measure => simp [intOf]; omega
                  · rw [h] at cs
                    have h3 : decide (t ≤ now) = false := by simp; omega
                    clear h h2
                    go_wp2_with fail
                    go_quiet (fail)
                    have I5 := Lib.hid (HI2.out.below (below_drewN (Below.refl _ _) nq))
                    clear cl cy cs
                    go_wp2_with fail
                    go_roundw
                    case rel => exact ⟨z + 1, by go_num, by omega, I5.out⟩
                    case measure => simp [intOf]; omega
                · obtain rfl : z = k := by omega
                  go_wp2_with fail
                  go_roundw
                  case rel => exact ⟨j + 1, r3, R', f', by go_num, by omega, HW2.out, HRl.out, HI2.out.g, HI2.out.f, S3.out, HI2.out.b⟩
                  case measure => simp [intOf]; omega
        · obtain rfl : j = m := by omega
          go_wp2_with fail
          go_ret
          exact ⟨rfl, HB.out⟩
theorem waits_any (a a' : Option Addr) (c c' : Nat) (xs ys : List Int) (w : World) (hx : Ints w a xs) (hy : Ints w a' ys) :
    Calls Try.prog 5 #[.slice a xs.length c, .slice a' ys.length c'] w fun e w' => e = .returned (.bool true) ∧ Below w.heap.size w w' := by
  by_cases h : xs.length ≤ 200 ∧ ys.length ≤ 200
  · exact waits_law a a' c c' xs ys w h.1 h.2 hx hy
  · exact waits_big a a' c c' _ _ w (by omega)
end Go.Proofs.Ytiklaaganiafjab
