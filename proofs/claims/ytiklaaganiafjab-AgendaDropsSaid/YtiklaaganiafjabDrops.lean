/-
  THE LAW AgendaDrops AS A WALK.
-/
import Derived.Test.YtiklaaganiafjabWaits
namespace Go.Proofs.Ytiklaaganiafjab
open Go.RowKit
/-- the number of each item -/
def nm (q : Nat) : Int := q
/-- what is there: what was added and is not gone -/
def DInv (xs : List Int) (n : Nat) (f : Nat → Bool) (R : List It) : Prop := R.Perm ((mk xs nm n).filter (fun x => !f x.i.toNat))
theorem d_start {xs : List Int} {n : Nat} {R : List It} (h : R.Perm (mk xs nm n)) : DInv xs n (fun _ => false) R := by
  have e : (mk xs nm n).filter (fun x => !(fun _ => false) x.i.toNat) = mk xs nm n := List.filter_eq_self.2 (fun x _ => rfl)
  show R.Perm ((mk xs nm n).filter (fun x => !(fun _ => false) x.i.toNat))
  rw [e]
  exact h
theorem d_src {xs : List Int} {n : Nat} {f : Nat → Bool} {R : List It} (h : DInv xs n f R) {x : It} : x ∈ R ↔ ∃ q, q < n ∧ x = ⟨xs.getD q 0, (q : Int) + 1, nm q⟩ ∧ f (q + 1) = false := by
  rw [h.mem_iff, List.mem_filter, mk_mem]
  constructor
  · rintro ⟨⟨q, hq, rfl⟩, hf⟩
    refine ⟨q, hq, rfl, ?_⟩
    have e : ((q : Int) + 1).toNat = q + 1 := by omega
    simp only [e] at hf
    simpa using hf
  · rintro ⟨q, hq, rfl, hf⟩
    refine ⟨⟨q, hq, rfl⟩, ?_⟩
    have e : ((q : Int) + 1).toNat = q + 1 := by omega
    simp only [e, hf, Bool.not_false]
theorem d_mem {xs : List Int} {n : Nat} {f : Nat → Bool} {R : List It} (h : DInv xs n f R) (d : Nat) : (∃ x ∈ R, x.i = (d : Int)) ↔ (1 ≤ d ∧ d ≤ n ∧ f d = false) := by
  constructor
  · rintro ⟨x, hx, e⟩
    obtain ⟨q, hq, rfl, hf⟩ := (d_src h).1 hx
    simp only at e
    have : d = q + 1 := by omega
    subst this
    exact ⟨by omega, by omega, hf⟩
  · rintro ⟨h1, h2, hf⟩
    obtain ⟨q, rfl⟩ : ∃ q, d = q + 1 := ⟨d - 1, by omega⟩
    exact ⟨_, (d_src h).2 ⟨q, by omega, rfl, hf⟩, by simp⟩
theorem d_out {xs : List Int} {n : Nat} {f : Nat → Bool} {R : List It} (h : DInv xs n f R) {d : Int} (hd : d < 1 ∨ (n : Int) < d) : ¬ ∃ x ∈ R, x.i = d := by
  rintro ⟨x, hx, e⟩
  obtain ⟨q, hq, rfl, _⟩ := (d_src h).1 hx
  simp only at e
  omega
theorem d_drop {xs : List Int} {n : Nat} {f : Nat → Bool} {R : List It} (h : DInv xs n f R) (d : Nat) : DInv xs n (fun z => z == d || f z) (R.filter (fun x => x.i != (d : Int))) := by
  unfold DInv at *
  refine (h.filter _).trans ?_
  rw [List.filter_filter]
  rw [List.filter_congr (q := fun x => !(x.i.toNat == d || f x.i.toNat))]
  intro x hx
  obtain ⟨q, hq, rfl⟩ := mk_mem.1 hx
  have e : ((q : Int) + 1).toNat = q + 1 := by omega
  simp only [e]
  by_cases hqd : q + 1 = d
  · subst hqd; simp
  · have h1 : (q + 1 == d) = false := by simpa using hqd
    have h2 : ((q : Int) + 1 != (d : Int)) = true := by simp; omega
    rw [h1, h2]; simp
theorem below_tch {w w1 w2 : World} {A : Nat} {Z : Int} {r r' : Option Nat} {R : List It} (hb : Below w.heap.size w w1) (t : Tch w1 w2 w.heap.size r r') (h : Agd w1 w.heap.size A Z r R) : Below w.heap.size w w2 :=
  ⟨t.os.trans hb.os, t.tape.trans hb.tape, t.output.trans hb.output, Nat.le_trans hb.size t.size, fun q hq => (t.block q (Nat.lt_of_lt_of_le hq hb.size) (by omega) (fun e => by have := (h.lt.2.1 q e.symm).1; omega)).trans (hb.block q hq)⟩
/-- how many of the first z are there and due -/
def cnt (xs : List Int) (f : Nat → Bool) (now : Int) (z : Nat) : Nat := ((mk xs nm z).filter (fun x => !f x.i.toNat && decide (x.t ≤ now))).length
theorem cnt_succ (xs : List Int) (f : Nat → Bool) (now : Int) (z : Nat) : cnt xs f now (z + 1) = cnt xs f now z + (if f (z + 1) = false ∧ xs.getD z 0 ≤ now then 1 else 0) := by
  unfold cnt
  rw [mk_succ, List.filter_append, List.length_append]
  congr 1
  have e : ((z : Int) + 1).toNat = z + 1 := by omega
  rw [List.filter_cons]
  simp only [e, List.filter_nil]
  generalize xs.getD z 0 = t
  by_cases h1 : f (z + 1) = false <;> by_cases h2 : t ≤ now <;> simp [h1, h2]
theorem cnt_le (xs : List Int) (f : Nat → Bool) (now : Int) (z : Nat) : cnt xs f now z ≤ z := by
  unfold cnt
  exact Nat.le_trans (List.length_filter_le _ _) (by rw [mk_len]; exact Nat.le_refl _)
theorem d_due {xs : List Int} {n : Nat} {f : Nat → Bool} {R X R' : List It} {now : Int} (h : DInv xs n f R) (hR : R = X ++ R') (h1 : ∀ x ∈ X, x.t ≤ now) (h2 : ∀ x ∈ R', now < x.t) : X.length = cnt xs f now n := by
  obtain ⟨e, _⟩ := due_split hR h1 h2
  have hp := h.filter (fun x => decide (x.t ≤ now))
  rw [← e, List.filter_filter] at hp
  rw [hp.length_eq]
  unfold cnt
  congr 1
  exact List.filter_congr (fun x _ => Bool.and_comm _ _)
set_option maxHeartbeats 1000000 in
set_option maxRecDepth 100000 in
theorem drops_big1 (a a' : Option Addr) (c c' : Nat) (n m : Nat) (now : Int) (w : World) (hl' : (200 : Int) < (n : Int)) :
    Calls Try.prog 8 #[.slice a n c, .slice a' m c', .int .i64 now] w fun e w' => e = .returned (.bool true) ∧ Below w.heap.size w w' := by
  go_enter Try.func8, Try.ntmps8
  go_wp2_with fail
  refine (new_any w w.heap.size).mono ?_
  rintro e w1 ⟨rfl, b1, _, _⟩
  go_wp2_with fail
  refine (awake_any w1).mono ?_
  rintro e w2 ⟨rfl, b2⟩
  have B2 := b1.trans (b2.mono b1.size)
  clear b2
  go_wp2_with fail
  refine (awake_any w2).mono ?_
  rintro e w3 ⟨rfl, b3⟩
  have B3 := B2.trans (b3.mono B2.size)
  clear b3 B2 b1
  go_wp2_with fail
  go_ret
  exact ⟨rfl, B3⟩
set_option maxHeartbeats 1000000 in
set_option maxRecDepth 100000 in
theorem drops_big2 (a a' : Option Addr) (c c' : Nat) (n m : Nat) (now : Int) (w : World) (hl2 : (n : Int) ≤ (200 : Int)) (hl' : (200 : Int) < (m : Int)) :
    Calls Try.prog 8 #[.slice a n c, .slice a' m c', .int .i64 now] w fun e w' => e = .returned (.bool true) ∧ Below w.heap.size w w' := by
  go_enter Try.func8, Try.ntmps8
  go_wp2_with fail
  refine (new_any w w.heap.size).mono ?_
  rintro e w1 ⟨rfl, b1, _, _⟩
  go_wp2_with fail
  refine (awake_any w1).mono ?_
  rintro e w2 ⟨rfl, b2⟩
  have B2 := b1.trans (b2.mono b1.size)
  clear b2
  go_wp2_with fail
  refine (awake_any w2).mono ?_
  rintro e w3 ⟨rfl, b3⟩
  have B3 := B2.trans (b3.mono B2.size)
  clear b3 B2 b1
  go_wp2_with fail
  go_ret
  exact ⟨rfl, B3⟩
set_option maxHeartbeats 8000000 in
set_option maxRecDepth 100000 in
theorem drops_law (a a' : Option Addr) (c c' : Nat) (xs ys : List Int) (now : Int) (w : World) (hl : xs.length ≤ 200) (hl' : ys.length ≤ 200) (hx : Ints w a xs) (hy : Ints w a' ys) :
    Calls Try.prog 8 #[.slice a xs.length c, .slice a' ys.length c', .int .i64 now] w fun e w' => e = .returned (.bool true) ∧ Below w.heap.size w w' := by
  have HX := Lib.hid hx
  have HY := Lib.hid hy
  clear hx hy
  generalize hn : xs.length = n at *
  generalize hm : ys.length = m at *
  have HN := Lib.hid hn
  have HM := Lib.hid hm
  clear hn hm
  have hn0 : (n : Int) ≤ 200 := by omega
  have hm0 : (m : Int) ≤ 200 := by omega
  go_enter Try.func8, Try.ntmps8
  go_wp2_with fail
  refine (new_any w w.heap.size).mono ?_
  rintro e w1 ⟨rfl, b1, _, g1⟩
  have HB1 := Lib.hid b1
  have G1 := Lib.hid g1
  clear b1 g1
  go_wp2_with fail
  refine (awake_any w1).mono ?_
  rintro e w2 ⟨rfl, b2⟩
  have HB2 := Lib.hid (HB1.out.trans (b2.mono HB1.out.size))
  have G2 := Lib.hid (G1.out.below b2)
  clear b2 G1 HB1
  obtain ⟨i4, hi, hz0, hz1, hz2⟩ := info_parts info4
  go_wp2_with (at_make; refine wpList_make_full _ rfl (.tmp 38) (.tmp 38) 44 rfl w.heap.size 4 i4 (.bool false) 1 Try.underlying44 hi hz0 hz1 .i64 .i64 ((n : Int) + 1) ((n : Int) + 1) (n + 1) rfl rfl rfl rfl (by rw [hz2]; omega) (by unfold maxLen; omega) HB2.out.size ?_; intro w4 ho4 hg4)
  have F4 := Lib.hid (flg_made ho4)
  have B24 : Hid (Below w2.heap.size w2 w4) := Lib.hid ⟨hg4.os, hg4.tape, hg4.output, hg4.size, fun q hq => hg4.block q hq (by simp)⟩
  have B4 : Hid (Below w.heap.size w w4) := Lib.hid (HB2.out.trans (B24.out.mono HB2.out.size))
  have G4 := Lib.hid (G2.out.below B24.out)
  have hAS : Hid (w.heap.size ≠ w2.heap.size) := Lib.hid (by have := G2.out.lt.1; omega)
  have hSB : Hid (w.heap.size ≤ w2.heap.size) := Lib.hid HB2.out.size
  generalize w2.heap.size = S at *
  clear ho4 hg4 G2 B24 HB2
  go_wp2_with fail
  go_loopw [9] (fun i wq => ∃ (k : Nat) (r : Option Nat) (R : List It), i = .int .i64 k ∧ k ≤ n ∧ R.Perm (mk xs nm k) ∧ Agd wq w.heap.size w.heap.size k r R ∧ Flg wq w.heap.size S (n + 1) (fun _ => false) ∧ some S ≠ r ∧ Below w.heap.size w wq) (fun i _ => n - (intOf i).toNat)
  case atStart => exact ⟨0, none, [], rfl, Nat.zero_le _, List.Perm.refl _, G4.out, F4.out, by simp, B4.out⟩
  case round =>
    obtain ⟨k, r, R, rfl, hk, hP, hG, hF, hS, hB⟩ := hrel
    have HB := Lib.hid hB
    have HG := Lib.hid hG
    have HF := Lib.hid hF
    have HS := Lib.hid hS
    have HP := Lib.hid hP
    have hRl : Hid (R.length = k) := Lib.hid (by rw [hP.length_eq, mk_len])
    clear hG hF hS hB hP
    by_cases hlt : k < n
    · obtain ⟨b, o, rfl, hbl⟩ := ints_addr HX.out (by rw [HN.out]; omega)
      have hc := ints_cell HX.out HB.out (k := k) (by rw [HN.out]; exact hlt)
      have HADD := Lib.hid (add_any wr w.heap.size w.heap.size k r R (xs.getD k 0) k HG.out (by rw [hRl.out]; omega) (by omega) (by omega) HB.out.size)
      generalize ht : xs.getD k 0 = t at *
      have HTT := Lib.hid ht
      clear ht
      go_wp2_with fail
      refine HADD.out.mono ?_
      rintro e w3 ⟨r3, rfl, g3, t3⟩
      have G3 : Hid (Agd w3 w.heap.size w.heap.size ((k + 1 : Nat) : Int) r3 (ins ⟨t, (k : Int) + 1, k⟩ R)) := Lib.hid g3
      have P3 := Lib.hid (mk_next (f := nm) (x := (k : Int)) HP.out HTT.out.symm rfl)
      have F3 := Lib.hid (HF.out.tch t3 (fun e => hAS.out e.symm) HS.out)
      have S3 : Hid (some S ≠ r3) := Lib.hid (by
        rcases t3.own with e | ⟨q, e, hq⟩
        · rw [e]; exact HS.out
        · rw [e]; intro e'; have := HF.out.lt; simp at e'; omega)
      have B3 := Lib.hid (below_tch HB.out t3 HG.out)
      clear g3 t3 hc HADD
      go_wp2_with fail
      go_roundw
      case rel => exact ⟨k + 1, r3, _, by go_num, by omega, P3.out, G3.out, F3.out, S3.out, B3.out⟩
      case measure => simp [intOf]; omega
    · obtain rfl : k = n := by omega
      have HD := Lib.hid (d_start HP.out)
      clear G4 F4 B4
      go_wp2_with fail
      go_loopw [10] (fun i wq => ∃ (j : Nat) (r : Option Nat) (R : List It) (f : Nat → Bool), i = .int .i64 j ∧ j ≤ m ∧ DInv xs k f R ∧ R.length ≤ 4096 ∧ Agd wq w.heap.size w.heap.size k r R ∧ Flg wq w.heap.size S (k + 1) f ∧ some S ≠ r ∧ Below w.heap.size w wq) (fun i _ => m - (intOf i).toNat)
      case atStart => exact ⟨0, r, R, _, rfl, Nat.zero_le _, HD.out, by rw [hRl.out]; omega, HG.out, HF.out, HS.out, HB.out⟩
      case round =>
        obtain ⟨j, r, R, f, rfl, hj, hW, hRs, hG, hF, hS, hB⟩ := hrel
        clear HD HG HF HS HB HP hRl
        have HB := Lib.hid hB
        have HG := Lib.hid hG
        have HF := Lib.hid hF
        have HS := Lib.hid hS
        have HD := Lib.hid hW
        have HRs := Lib.hid hRs
        clear hG hF hS hB hW hRs
        by_cases hjm : j < m
        · obtain ⟨b', o', rfl, hbl'⟩ := ints_addr HY.out (by rw [HM.out]; omega)
          have hc := ints_cell HY.out HB.out (k := j) (by rw [HM.out]; exact hjm)
          generalize ys.getD j 0 = d at *
          have HDR := Lib.hid (drop_any wr w.heap.size w.heap.size _ r R d HG.out)
          have POST : Hid (∀ (b : Bool) e w3, decide (∃ x ∈ R, x.i = d) = b → Dropd wr w.heap.size w.heap.size k r R d e w3 → ∃ r3, e = .returned (.bool b) ∧ Agd w3 w.heap.size w.heap.size k r3 (R.filter (fun x => x.i != d)) ∧ Flg w3 w.heap.size S (k + 1) f ∧ some S ≠ r3 ∧ Below w.heap.size w w3) := Lib.hid (by
            rintro b e w3 hb ⟨r3, rfl, g3, t3⟩
            refine ⟨r3, by rw [hb], g3, HF.out.tch t3 (fun e => hAS.out e.symm) HS.out, ?_, below_tch HB.out t3 HG.out⟩
            rcases t3.own with e | ⟨q, e, hq⟩
            · rw [e]; exact HS.out
            · rw [e]; intro e'; have := HF.out.lt; simp at e'; omega)
          have HFl : Hid ((R.filter (fun x => x.i != d)).length ≤ 4096) := Lib.hid (Nat.le_trans (List.length_filter_le _ _) HRs.out)
          by_cases hin : 1 ≤ d ∧ d ≤ (k : Int)
          · obtain ⟨dn, rfl⟩ : ∃ dn : Nat, d = dn := ⟨d.toNat, by omega⟩
            obtain ⟨hd1, hd2⟩ := hin
            have cs := HF.out.cell (j := dn) (by omega)
            have hdm := d_mem HD.out dn
            have hdk : (dn : Int) < (k : Int) + 1 := by omega
            by_cases hf : f dn = false
            · have hyes : decide (∃ x ∈ R, x.i = (dn : Int)) = true := decide_eq_true (hdm.2 ⟨by omega, by omega, hf⟩)
              have PO := Lib.hid (POST.out true · · hyes)
              have HD2 := Lib.hid (d_drop HD.out dn)
              rw [hf] at cs
              clear hf hdm hyes
              go_wp2_with fail
              refine HDR.out.mono ?_
              rintro e w3 hpost
              obtain ⟨r3, rfl, g3, f3, s3, b3⟩ := PO.out _ _ hpost
              have cs3 := f3.cell (j := dn) (by omega)
              have fs3 := f3.free dn
              have G3 := Lib.hid g3
              have F3 := Lib.hid f3
              have S3 := Lib.hid s3
              have B3 := Lib.hid b3
              clear hpost g3 f3 s3 b3 cs hc HDR
              go_wp2_with fail
              go_roundw
              case rel => exact ⟨j + 1, r3, _, _, by go_num, by omega, HD2.out, HFl.out, G3.out.grown (grown_put w3 S dn _) (fun e => hAS.out (Option.some.inj e)) (.inr S3.out), F3.out.put dn, S3.out, B3.out.setCell hSB.out _⟩
              case measure => simp [intOf]; omega
            · have hf' : f dn = true := by simpa using hf
              have hnex : ¬ ∃ x ∈ R, x.i = (dn : Int) := fun h => hf (hdm.1 h).2.2
              have hno : decide (∃ x ∈ R, x.i = (dn : Int)) = false := decide_eq_false hnex
              have PO := Lib.hid (POST.out false · · hno)
              have HFE : Hid (R.filter (fun x => x.i != (dn : Int)) = R) := Lib.hid (filter_none (fun x hx e => hnex ⟨x, hx, e⟩))
              rw [hf'] at cs
              clear hf hf' hdm hno hnex
              go_wp2_with fail
              refine HDR.out.mono ?_
              rintro e w3 hpost
              obtain ⟨r3, rfl, g3, f3, s3, b3⟩ := PO.out _ _ hpost
              rw [HFE.out] at g3
              have G3 := Lib.hid g3
              have F3 := Lib.hid f3
              have S3 := Lib.hid s3
              have B3 := Lib.hid b3
              clear hpost g3 f3 s3 b3 cs hc HDR
              go_wp2_with fail
              go_roundw
              case rel => exact ⟨j + 1, r3, R, f, by go_num, by omega, HD.out, HRs.out, G3.out, F3.out, S3.out, B3.out⟩
              case measure => simp [intOf]; omega
          · have hnex : ¬ ∃ x ∈ R, x.i = d := d_out HD.out (by omega)
            have hno : decide (∃ x ∈ R, x.i = d) = false := decide_eq_false hnex
            have PO := Lib.hid (POST.out false · · hno)
            have HFE : Hid (R.filter (fun x => x.i != d) = R) := Lib.hid (filter_none (fun x hx e => hnex ⟨x, hx, e⟩))
            clear hno hnex
            by_cases hd1 : d < 1
            · clear hin
              go_wp2_with fail
              refine HDR.out.mono ?_
              rintro e w3 hpost
              obtain ⟨r3, rfl, g3, f3, s3, b3⟩ := PO.out _ _ hpost
              rw [HFE.out] at g3
              have G3 := Lib.hid g3
              have F3 := Lib.hid f3
              have S3 := Lib.hid s3
              have B3 := Lib.hid b3
              clear hpost g3 f3 s3 b3 hc HDR
              go_wp2_with fail
              go_roundw
              case rel => exact ⟨j + 1, r3, R, f, by go_num, by omega, HD.out, HRs.out, G3.out, F3.out, S3.out, B3.out⟩
              case measure => simp [intOf]; omega
            · have hd2 : (k : Int) < d := by omega
              have hd3 : 1 ≤ d := by omega
              clear hin hd1
              go_wp2_with fail
              refine HDR.out.mono ?_
              rintro e w3 hpost
              obtain ⟨r3, rfl, g3, f3, s3, b3⟩ := PO.out _ _ hpost
              rw [HFE.out] at g3
              have G3 := Lib.hid g3
              have F3 := Lib.hid f3
              have S3 := Lib.hid s3
              have B3 := Lib.hid b3
              clear hpost g3 f3 s3 b3 hc HDR
              go_wp2_with fail
              go_roundw
              case rel => exact ⟨j + 1, r3, R, f, by go_num, by omega, HD.out, HRs.out, G3.out, F3.out, S3.out, B3.out⟩
              case measure => simp [intOf]; omega
        · obtain rfl : j = m := by omega
          go_wp2_with fail
          go_loopw [13, 14] (fun q i wq => ∃ (z : Nat), q = .int .i64 (cnt xs f now z : Nat) ∧ i = .int .i64 z ∧ z ≤ k ∧ Agd wq w.heap.size w.heap.size k r R ∧ Flg wq w.heap.size S (k + 1) f ∧ Below w.heap.size w wq) (fun _ i _ => k - (intOf i).toNat)
          case atStart => exact ⟨0, rfl, rfl, Nat.zero_le _, HG.out, HF.out, HB.out⟩
          case round =>
            obtain ⟨z, rfl, rfl, hz, hG, hF, hB⟩ := hrel
            have HB2 := Lib.hid hB
            have HG2 := Lib.hid hG
            have HF2 := Lib.hid hF
            clear hG hF hB
            by_cases hzk : z < k
            · obtain ⟨b, o, rfl, hbl⟩ := ints_addr HX.out (by rw [HN.out]; omega)
              have cl := ints_cell HX.out HB2.out (k := z) (by rw [HN.out]; exact hzk)
              have cs := HF2.out.cell (j := z + 1) (by omega)
              have hcl := cnt_le xs f now z
              have hcs := cnt_succ xs f now z
              have hz1 : (z : Int) + 1 < (k : Int) + 1 := by omega
              generalize hC : cnt xs f now z = C at *
              clear hC
              by_cases hfz : f (z + 1) = false
              · rw [hfz] at cs
                by_cases hle : xs.getD z 0 ≤ now
                · rw [if_pos ⟨hfz, hle⟩] at hcs
                  have HCS := Lib.hid hcs
                  generalize xs.getD z 0 = t at *
                  clear hcs hfz
                  go_wp2_with fail
                  go_roundw
                  case rel => exact ⟨z + 1, by rw [HCS.out]; go_num, by go_num, by omega, HG2.out, HF2.out, HB2.out⟩
                  case measure => simp [intOf]; omega
                · rw [if_neg (fun h => hle h.2)] at hcs
                  have HCS := Lib.hid hcs
                  generalize xs.getD z 0 = t at *
                  have hle' : now < t := by omega
                  clear hcs hfz hle
                  go_wp2_with fail
                  go_roundw
                  case rel => exact ⟨z + 1, by rw [HCS.out]; rfl, by go_num, by omega, HG2.out, HF2.out, HB2.out⟩
                  case measure => simp [intOf]; omega
              · rw [if_neg (fun h => hfz h.1)] at hcs
                have HCS := Lib.hid hcs
                have hfz' : f (z + 1) = true := by simpa using hfz
                rw [hfz'] at cs
                clear hcs hfz hfz'
                go_wp2_with fail
                go_roundw
                case rel => exact ⟨z + 1, by rw [HCS.out]; rfl, by go_num, by omega, HG2.out, HF2.out, HB2.out⟩
                case measure => simp [intOf]; omega
            · obtain rfl : z = k := by omega
              have HDU := Lib.hid (due_any wr w.heap.size w.heap.size _ r R now HG2.out HRs.out)
              have HCN : Hid (∀ X R', R = X ++ R' → (∀ x ∈ X, x.t ≤ now) → (∀ x ∈ R', now < x.t) → cnt xs f now z = X.length) := Lib.hid (fun X R' h1 h2 h3 => (d_due HD.out h1 h2 h3).symm)
              generalize hC : cnt xs f now z = C at *
              clear hC
              go_wp2_with fail
              refine HDU.out.mono ?_
              rintro e w3 ⟨v, X, R', r3, rfl, hR, hX1, hX2, g3, t3, o3, n3⟩
              have HCX := Lib.hid (HCN.out X R' hR hX1 hX2)
              have F3 := Lib.hid (HF2.out.tch t3 (fun e => hAS.out e.symm) HS.out)
              have B3 := Lib.hid (below_tch HB2.out t3 HG2.out)
              obtain ⟨va, vc, hv⟩ := own_slice o3
              subst hv
              generalize wr.heap.size = B0 at o3
              have I3 : Hid (SInv w w3 z r3 R' B0 (.slice va X.length vc) X S (z + 1) f) := Lib.hid ⟨B3.out, g3, o3, F3.out⟩
              have HSO : Hid (Sorted X) := Lib.hid (by have := HG2.out.sorted; rw [hR] at this; exact (List.pairwise_append.1 this).1)
              have HX1 := Lib.hid hX1
              have HXM : Hid (∀ p (h : p < X.length), ∃ q, q < z ∧ X[p] = ⟨xs.getD q 0, (q : Int) + 1, nm q⟩ ∧ f (q + 1) = false) := Lib.hid (fun p h => (d_src HD.out).1 (by rw [hR]; exact List.mem_append.2 (.inl (List.getElem_mem h))))
              have hXl : X.length ≤ 4096 := by have := HRs.out; rw [hR, List.length_append] at this; omega
              clear hX1 hX2 g3 t3 o3 n3 B3 F3 HDU HG HF HB HG2 HF2 HB2 hR
              rw [HCX.out]
              go_wp2_with fail
              go_loopw [16] (fun i wq => ∃ (p : Nat), i = .int .i64 p ∧ p ≤ X.length ∧ SInv w wq z r3 R' B0 (.slice va X.length vc) X S (z + 1) f) (fun i _ => X.length - (intOf i).toNat)
              case atStart => exact ⟨0, rfl, Nat.zero_le _, I3.out⟩
              case round =>
                obtain ⟨p, rfl, hp, hinv⟩ := hrel
                have HI := Lib.hid hinv
                clear hinv I3
                by_cases hpX : p < X.length
                · obtain ⟨g, cap', hv, _, hgl⟩ := HI.out.o.form (by omega)
                  simp only [Value.slice.injEq, true_and] at hv
                  obtain ⟨rfl, rfl⟩ := hv
                  have hrow : RowG wr B0 g vc X := HI.out.o
                  obtain ⟨q, hq, hxe, hfq⟩ := HXM.out p hpX
                  obtain ⟨b, o, rfl, hbl⟩ := ints_addr HX.out (by rw [HN.out]; omega)
                  have c1 := (hrow.cell hpX).1
                  have c2 := (hrow.cell hpX).2.1
                  have c3 := (hrow.cell hpX).2.2
                  rw [hxe] at c1 c2 c3
                  have cl := ints_cell HX.out HI.out.b (k := q) (by rw [HN.out]; exact hq)
                  have cs := HI.out.f.cell (j := q + 1) (by omega)
                  rw [hfq] at cs
                  have hle : xs.getD q 0 ≤ now := by have := HX1.out _ (List.getElem_mem hpX); rw [hxe] at this; exact this
                  have hq' : (q : Int) + 1 < (z : Int) + 1 := by omega
                  have hq1 : (q : Int) + 1 ≤ (z : Int) := by omega
                  have hq0 : (0 : Int) ≤ (q : Int) := by omega
                  have hsl : 0 < p → ∃ y, X[p - 1]? = some y ∧ y.lt ⟨xs.getD q 0, (q : Int) + 1, nm q⟩ ∧ wr.cell? ⟨g, (p - 1) * 3, none⟩ = some (.int .i64 y.t) ∧ wr.cell? ⟨g, (p - 1) * 3 + 1, none⟩ = some (.int .i64 y.i) := fun h0 => by
                    have hp1 : p - 1 < X.length := by omega
                    refine ⟨X[p - 1], List.getElem?_eq_getElem hp1, ?_, (hrow.cell hp1).1, (hrow.cell hp1).2.1⟩
                    rw [← hxe]
                    exact sorted_lt HSO.out (by omega) hpX
                  have ltw : g < wr.heap.size := hgl
                  have hnm : nm q = (q : Int) := rfl
                  rw [hnm] at c3 hsl
                  generalize xs.getD q 0 = t at *
                  obtain ⟨w5, hw5⟩ : ∃ w5 : World, w5 = wr.alloc (Obj.cells #[Value.int IntKind.i64 t, Value.int IntKind.i64 ((q : Int) + 1), Value.int IntKind.i64 q] 46) := ⟨_, rfl⟩
                  have BA : Hid (Below wr.heap.size wr w5) := Lib.hid (by rw [hw5]; exact (Below.refl _ _).alloc (Nat.le_refl _) _)
                  have ltS : S < wr.heap.size := HI.out.f.lt
                  have ltb : b < wr.heap.size := Nat.lt_of_lt_of_le hbl HI.out.b.size
                  have x0 : w5.cell? ⟨wr.heap.size, 0, none⟩ = some (.int .i64 t) := by rw [hw5]; go_simp
                  have x1 : w5.cell? ⟨wr.heap.size, 1, none⟩ = some (.int .i64 ((q : Int) + 1)) := by rw [hw5]; go_simp
                  have x2 : w5.cell? ⟨wr.heap.size, 2, none⟩ = some (.int .i64 q) := by rw [hw5]; go_simp
                  have cl5 : w5.cell? ⟨b, o + q, none⟩ = some (.int .i64 t) := by rw [BA.out.cell (p := ⟨b, _, none⟩) ltb]; exact cl
                  have cs5 : w5.cell? ⟨S, q + 1, none⟩ = some (.bool false) := by rw [BA.out.cell (p := ⟨S, _, none⟩) ltS]; exact cs
                  have I5 := Lib.hid (HI.out.below BA.out)
                  have lt5 : wr.heap.size < w5.heap.size := World.block_lt_of_cell? _ _ x0
                  have hwq : IntKind.i64.wrap (q : Int) = q := IntWalk.i64_in _ (by omega)
                  have hne : ((q : Int) != (q : Int)) = false := by simp
                  have htn : (t != t) = false := by simp
                  have hnt : decide (now < t) = false := by simp; omega
                  have g0 : decide ((q : Int) + 1 < 1) = false := by simp; omega
                  have g0' : decide ((q : Int) < 0) = false := by simp
                  have g1 : decide ((z : Int) < (q : Int) + 1) = false := by simp; omega
                  have g1' : decide ((z : Int) ≤ (q : Int)) = false := by simp; omega
                  have g1'' : decide (z ≤ q) = false := by simp; omega
                  clear hrow hxe hfq hnm ltb ltS cl cs
                  by_cases hp0 : p = 0
                  · subst hp0
                    rw [Nat.zero_mul] at c1 c2 c3
                    rw [Nat.zero_add] at c2 c3
                    clear hsl
                    go_wp2_with fail
                    rw [← hw5]
                    generalize wr.heap.size = bx at *
                    clear hw5 BA HI c1 c2 c3
                    go_quiet (fail)
                    have I8 := Lib.hid (I5.out.below (below_drewN (Below.refl _ _) nq))
                    clear hwq hne htn hnt g0 g0' g1 g1' g1'' I5 cl5 cs5 x0 x1 x2
                    go_wp2_with fail
                    go_roundw
                    case rel => exact ⟨0 + 1, by go_num, by omega, I8.out⟩
                    case measure => simp [intOf]; omega
                  · obtain ⟨y, _, hlt, e1, e2⟩ := hsl (by omega)
                    have hpm : p - 1 < X.length := by omega
                    have hpp : (1 : Int) ≤ (p : Int) := by omega
                    have hgt0 : decide ((0 : Int) < (p : Int)) = true := by simp; omega
                    have hgtN : decide (0 < p) = true := by simp; omega
                    have hgtP : 0 < p := by omega
                    have hwp : IntKind.i64.wrap ((p : Int) - 1) = (p : Int) - 1 := IntWalk.i64_in _ (by omega)
                    have hnp : ((p : Int) - 1).toNat = p - 1 := by omega
                    have hpl : (p : Int) - 1 < (X.length : Int) := by omega
                    have hp0' : (0 : Int) ≤ (p : Int) - 1 := by omega
                    have e15 : w5.cell? ⟨g, (p - 1) * 3, none⟩ = some (.int .i64 y.t) := by rw [BA.out.cell (p := ⟨g, _, none⟩) ltw]; exact e1
                    have e25 : w5.cell? ⟨g, (p - 1) * 3 + 1, none⟩ = some (.int .i64 y.i) := by rw [BA.out.cell (p := ⟨g, _, none⟩) ltw]; exact e2
                    clear hsl e1 e2
                    unfold It.lt at hlt
                    simp only at hlt
                    generalize y.t = t' at *
                    generalize y.i = i' at *
                    go_wp2_with fail
                    rw [← hw5]
                    generalize wr.heap.size = bx at *
                    clear hw5 BA HI c1 c2 c3 ltw
                    rcases hlt with h | ⟨h, h'⟩
                    · have d1 : decide (t < t') = false := by simp; omega
                      have d2 : (t' == t) = false := by simp; omega
                      clear h
                      go_quiet (fail)
                      have I8 := Lib.hid (I5.out.below (below_drewN (Below.refl _ _) nq))
                      clear hwq hne htn hnt g0 g0' g1 g1' g1'' I5 cl5 cs5 x0 x1 x2 hwp hnp e15 e25
                      go_wp2_with fail
                      go_roundw
                      case rel => exact ⟨p + 1, by go_num, by omega, I8.out⟩
                      case measure => simp [intOf]; omega
                    · subst h
                      have d3 : decide ((q : Int) + 1 ≤ i') = false := by simp; omega
                      have d1 : decide (t' < t') = false := by simp
                      clear h'
                      go_quiet (fail)
                      have I8 := Lib.hid (I5.out.below (below_drewN (Below.refl _ _) nq))
                      clear hwq hne htn hnt g0 g0' g1 g1' g1'' I5 cl5 cs5 x0 x1 x2 hwp hnp e15 e25
                      go_wp2_with fail
                      go_roundw
                      case rel => exact ⟨p + 1, by go_num, by omega, I8.out⟩
                      case measure => simp [intOf]; omega
                · obtain rfl : p = X.length := by omega
                  go_wp2_with fail
                  go_ret
                  exact ⟨by simp, HI.out.b⟩
theorem drops_any (a a' : Option Addr) (c c' : Nat) (xs ys : List Int) (now : Int) (w : World) (hx : Ints w a xs) (hy : Ints w a' ys) :
    Calls Try.prog 8 #[.slice a xs.length c, .slice a' ys.length c', .int .i64 now] w fun e w' => e = .returned (.bool true) ∧ Below w.heap.size w w' := by
  by_cases h : xs.length ≤ 200
  · by_cases h' : ys.length ≤ 200
    · exact drops_law a a' c c' xs ys now w h h' hx hy
    · exact drops_big2 a a' c c' xs.length ys.length now w (by omega) (by omega)
  · exact drops_big1 a a' c c' xs.length ys.length now w (by omega)
end Go.Proofs.Ytiklaaganiafjab
