/-
  WHICH TRACKS MAY BE KEPT: few, trackMay.
-/
import Derived.Test.YtifdljdnpdefgaaRun
namespace Go.Proofs.Ytifdljdnpdefgaa
open Go.RowKit
def trackV (c t l : Int) (v : Value) : Value := .agg #[.int .i64 c, .int .i64 t, .int .i64 l, v]
def runB (r : Rn) : Bool := decide (0 ≤ r.t) && (decide (0 ≤ r.s) && (decide (r.s < 64) && pickB r.b r.P))
def keepB (c t l : Int) (L : List Rn) : Bool := idxB c && (decide (0 ≤ t) && (idxB l && (decide (L.length ≤ 64) && L.all runB)))
theorem all_true {L : List Rn} {f : Rn → Bool} (h : ∀ i (hi : i < L.length), f L[i] = true) : L.all f = true := by
  rw [List.all_eq_true]
  intro x hx
  obtain ⟨i, hi, rfl⟩ := List.mem_iff_getElem.1 hx
  exact h i hi
theorem all_false {L : List Rn} {f : Rn → Bool} {i : Nat} (hi : i < L.length) (h : f L[i] = false) : L.all f = false := by
  rw [List.all_eq_false]
  exact ⟨L[i], List.getElem_mem hi, by rw [h]; decide⟩
def fewB (L : List Rn) : Bool := decide (L.length ≤ 100) && L.all fun r => decide (r.P.length ≤ 100)
set_option maxHeartbeats 8000000 in
set_option maxRecDepth 100000 in
theorem few_any (c t l : Int) (L : List Rn) (a : Option Addr) (cp : Nat) (w : World) (hR : Rns w a L) : Calls Try.prog 6 #[trackV c t l (.slice a L.length cp)] w fun e w' => e = .returned (.bool (fewB L)) ∧ Below w.heap.size w w' := by
  unfold trackV
  have bA := (Below.refl _ w).alloc (Nat.le_refl _) (.cells #[.int .i64 c, .int .i64 t, .int .i64 l, .slice a L.length cp] 24)
  have BA := Lib.hid bA
  have RA := Lib.hid (hR.below bA)
  have K := Blk.new w 24 #[.int .i64 c, .int .i64 t, .int .i64 l, .slice a L.length cp]
  clear hR bA
  generalize hm : L.length = m at *
  have HM := Lib.hid hm
  clear hm
  have c3 := K.cell 3
  simp only [List.getElem?_toArray, List.getElem?_cons_zero, List.getElem?_cons_succ] at c3
  clear K
  by_cases hm100 : m ≤ 100
  rotate_left
  · have hmI : (100 : Int) < (m : Int) := by omega
    have R : fewB L = false := by unfold fewB; rw [HM.out, decide_eq_false hm100]; rfl
    rw [R]
    clear hm100 R
    go_enter Try.func6, Try.ntmps6
    go_wp2_with fail
    go_ret
    exact ⟨rfl, BA.out⟩
  have hmI : ¬ (100 : Int) < (m : Int) := by omega
  have R : fewB L = L.all fun r => decide (r.P.length ≤ 100) := by unfold fewB; rw [HM.out, decide_eq_true hm100]; rfl
  rw [R]
  clear R
  generalize hf : (L.all fun r => decide (r.P.length ≤ 100)) = f at *
  have HF := Lib.hid hf
  clear hf
  go_enter Try.func6, Try.ntmps6
  go_wp2_with fail
  generalize w.alloc (.cells #[.int .i64 c, .int .i64 t, .int .i64 l, .slice a m cp] 24) = W at *
  go_loop [3] (fun i => ∃ j : Nat, i = .int .i64 (j : Int) ∧ j ≤ m ∧ ∀ k (hk : k < L.length), k < j → L[k].P.length ≤ 100) (fun i => m - (intOf i).toNat)
  case atStart => exact ⟨0, rfl, Nat.zero_le _, fun k _ hk => absurd hk (Nat.not_lt_zero k)⟩
  case round =>
    obtain ⟨j, rfl, hjm, hj⟩ := hrel
    have HJ := Lib.hid hj
    clear hj
    by_cases hlt : j < m
    rotate_left
    · have hlt' : ¬ (j : Int) < (m : Int) := by omega
      have RH : Hid (f = true) := Lib.hid (by
        rw [← HF.out]
        exact all_true (fun i hi => decide_eq_true (HJ.out i hi (by rw [HM.out] at hi; omega))))
      go_wp2_with fail
      go_ret
      exact ⟨by first | (rw [RH.out]; done) | (rw [RH.out]; rfl), BA.out⟩
    have hlt' : (j : Int) < (m : Int) := by omega
    have hjL : j < L.length := by rw [HM.out]; exact hlt
    obtain ⟨g, o, q, cq, e, hg, d0, d1, d2, d3, d4, hi, hcap⟩ := RA.out j hjL
    clear hcap
    subst e
    have AF := Lib.hid (fun (h : ¬ L[j].P.length ≤ 100) => all_false (f := fun r => decide (r.P.length ≤ 100)) hjL (decide_eq_false h))
    have NX := Lib.hid (fun (h : L[j].P.length ≤ 100) => fun k (hk : k < L.length) (hk2 : k < j + 1) => show L[k].P.length ≤ 100 from by
      by_cases h2 : k < j
      · exact HJ.out k hk h2
      · have : k = j := by omega
        subst this
        exact h)
    clear d0 d1 d2 d3 hi hg
    generalize L[j].P.length = n at *
    by_cases hn : n ≤ 100
    · have hnI : ¬ (100 : Int) < (n : Int) := by omega
      have NX1 := Lib.hid (NX.out hn)
      clear NX AF hn
      go_wp2_with fail
      exact ⟨⟨j + 1, by go_num, by omega, NX1.out⟩, by simp [intOf]; omega⟩
    · have hnI : (100 : Int) < (n : Int) := by omega
      have RH : Hid (f = false) := Lib.hid (by rw [← HF.out]; exact AF.out hn)
      clear NX AF hn
      go_wp2_with fail
      go_ret
      exact ⟨by first | (rw [RH.out]; done) | (rw [RH.out]; rfl), BA.out⟩
set_option maxHeartbeats 16000000 in
set_option maxRecDepth 100000 in
theorem tmay_any (c t l : Int) (L : List Rn) (a : Option Addr) (cp : Nat) (w : World) (hR : Rns w a L) (hP : ∀ r ∈ L, r.P.length ≤ 140737488355328) : Calls Try.prog 14 #[trackV c t l (.slice a L.length cp)] w fun e w' => e = .returned (.bool (keepB c t l L)) ∧ Below w.heap.size w w' := by
  unfold trackV
  have bA := (Below.refl _ w).alloc (Nat.le_refl _) (.cells #[.int .i64 c, .int .i64 t, .int .i64 l, .slice a L.length cp] 24)
  have BA := Lib.hid bA
  have RA := Lib.hid (hR.below bA)
  have K := Blk.new w 24 #[.int .i64 c, .int .i64 t, .int .i64 l, .slice a L.length cp]
  have HP := Lib.hid hP
  clear hR bA hP
  generalize hm : L.length = m at *
  have HM := Lib.hid hm
  clear hm
  have c0 := K.cell 0
  have c1 := K.cell 1
  have c2 := K.cell 2
  have c3 := K.cell 3
  simp only [List.getElem?_toArray, List.getElem?_cons_zero, List.getElem?_cons_succ] at c0 c1 c2 c3
  clear K
  have I0 := Lib.hid (index_any c)
  have I2 := Lib.hid (index_any l)
  generalize hK : keepB c t l L = kb at *
  have HK := Lib.hid hK
  clear hK
  cases hc : idxB c
  · have RH : Hid (kb = false) := Lib.hid (by rw [← HK.out]; unfold keepB; rw [hc]; rfl)
    rw [hc] at I0
    clear hc
    go_enter Try.func14, Try.ntmps14
    go_wp2_with fail
    refine (I0.out _).mono ?_
    rintro e w1 ⟨rfl, rfl⟩
    go_wp2_with fail
    go_ret
    exact ⟨by first | (rw [RH.out]; done) | (rw [RH.out]; rfl), BA.out⟩
  rw [hc] at I0
  by_cases ht : t < 0
  · have RH : Hid (kb = false) := Lib.hid (by rw [← HK.out]; unfold keepB; rw [hc, decide_eq_false (by omega : ¬ 0 ≤ t)]; rfl)
    clear hc
    go_enter Try.func14, Try.ntmps14
    go_wp2_with fail
    refine (I0.out _).mono ?_
    rintro e w1 ⟨rfl, rfl⟩
    go_wp2_with fail
    go_ret
    exact ⟨by first | (rw [RH.out]; done) | (rw [RH.out]; rfl), BA.out⟩
  cases hl : idxB l
  · have RH : Hid (kb = false) := Lib.hid (by rw [← HK.out]; unfold keepB; rw [hl]; simp)
    rw [hl] at I2
    clear hc hl
    go_enter Try.func14, Try.ntmps14
    go_wp2_with fail
    refine (I0.out _).mono ?_
    rintro e w1 ⟨rfl, rfl⟩
    go_wp2_with fail
    refine (I2.out _).mono ?_
    rintro e w1 ⟨rfl, rfl⟩
    go_wp2_with fail
    go_ret
    exact ⟨by first | (rw [RH.out]; done) | (rw [RH.out]; rfl), BA.out⟩
  rw [hl] at I2
  by_cases hm64 : m ≤ 64
  rotate_left
  · have RH : Hid (kb = false) := Lib.hid (by rw [← HK.out]; unfold keepB; rw [HM.out, decide_eq_false hm64]; simp)
    have hmI : (64 : Int) < (m : Int) := by omega
    clear hc hl hm64
    go_enter Try.func14, Try.ntmps14
    go_wp2_with fail
    refine (I0.out _).mono ?_
    rintro e w1 ⟨rfl, rfl⟩
    go_wp2_with fail
    refine (I2.out _).mono ?_
    rintro e w1 ⟨rfl, rfl⟩
    go_wp2_with fail
    go_ret
    exact ⟨by first | (rw [RH.out]; done) | (rw [RH.out]; rfl), BA.out⟩
  have HF : Hid (L.all runB = kb) := Lib.hid (by rw [← HK.out]; unfold keepB; rw [hc, hl, HM.out, decide_eq_true hm64, decide_eq_true (by omega : 0 ≤ t)]; rfl)
  have hmI : ¬ (64 : Int) < (m : Int) := by omega
  clear hc hl HK
  go_enter Try.func14, Try.ntmps14
  go_wp2_with fail
  refine (I0.out _).mono ?_
  rintro e w1 ⟨rfl, rfl⟩
  go_wp2_with fail
  refine (I2.out _).mono ?_
  rintro e w1 ⟨rfl, rfl⟩
  go_wp2_with fail
  generalize w.alloc (.cells #[.int .i64 c, .int .i64 t, .int .i64 l, .slice a m cp] 24) = W at *
  clear c0 c1 c2 c3 I0 I2
  go_loopw [29] (fun i wq => ∃ j : Nat, i = .int .i64 (j : Int) ∧ j ≤ m ∧ (∀ k (hk : k < L.length), k < j → runB L[k] = true) ∧ Below w.heap.size w wq ∧ Rns wq a L) (fun i _ => m - (intOf i).toNat)
  case atStart => exact ⟨0, rfl, Nat.zero_le _, fun k _ hk => absurd hk (Nat.not_lt_zero k), BA.out, RA.out⟩
  case round =>
    obtain ⟨j, rfl, hjm, hj, hb, hr⟩ := hrel
    have HJ := Lib.hid hj
    have HB := Lib.hid hb
    have HR := Lib.hid hr
    clear hj hb hr BA RA
    by_cases hlt : j < m
    rotate_left
    · have hlt' : ¬ (j : Int) < (m : Int) := by omega
      have RH : Hid (kb = true) := Lib.hid (by
        rw [← HF.out]
        exact all_true (fun i hi => HJ.out i hi (by rw [HM.out] at hi; omega)))
      go_wp2_with fail
      go_ret
      exact ⟨by first | (rw [RH.out]; done) | (rw [RH.out]; rfl), HB.out⟩
    have hlt' : (j : Int) < (m : Int) := by omega
    have hjL : j < L.length := by rw [HM.out]; exact hlt
    obtain ⟨g, o, q, cq, e, hg, d0, d1, d2, d3, d4, hi, hcap⟩ := HR.out j hjL
    clear hcap
    subst e
    have AF := Lib.hid (fun (h : runB L[j] = false) => all_false (f := runB) hjL h)
    have NX := Lib.hid (fun (h : runB L[j] = true) => fun k (hk : k < L.length) (hk2 : k < j + 1) => show runB L[k] = true from by
      by_cases h2 : k < j
      · exact HJ.out k hk h2
      · have : k = j := by omega
        subst this
        exact h)
    have hp := HP.out L[j] (List.getElem_mem hjL)
    generalize L[j] = r at *
    obtain ⟨rb, rt, rs, rn, P⟩ := r
    simp only at d0 d1 d2 d3 d4 hi hp
    have bB := (Below.refl _ wr).alloc (Nat.le_refl _) (.cells #[.int .i64 rb, .int .i64 rt, .int .i64 rs, .int .u64 rn, .slice q P.length cq] 46)
    have PK := Lib.hid (picks_any rb rt rs rn P q cq _ (hi.below bB) hp)
    have BN := Lib.hid (HB.out.trans (bB.mono HB.out.size))
    have RN := Lib.hid (HR.out.below bB)
    clear hi hg bB hp
    by_cases h1 : rt < 0
    · have RH : Hid (kb = false) := Lib.hid (by rw [← HF.out]; exact AF.out (by unfold runB; simp only; rw [decide_eq_false (by omega : ¬ 0 ≤ rt)]; rfl))
      clear NX AF PK
      go_wp2_with fail
      go_ret
      exact ⟨by first | (rw [RH.out]; done) | (rw [RH.out]; rfl), BN.out⟩
    by_cases h2 : rs < 0
    · have RH : Hid (kb = false) := Lib.hid (by rw [← HF.out]; exact AF.out (by unfold runB; simp only; rw [decide_eq_false (by omega : ¬ 0 ≤ rs)]; simp))
      clear NX AF PK
      go_wp2_with fail
      go_ret
      exact ⟨by first | (rw [RH.out]; done) | (rw [RH.out]; rfl), BN.out⟩
    by_cases h3 : 64 ≤ rs
    · have RH : Hid (kb = false) := Lib.hid (by rw [← HF.out]; exact AF.out (by unfold runB; simp only; rw [decide_eq_false (by omega : ¬ rs < 64)]; simp))
      clear NX AF PK
      go_wp2_with fail
      go_ret
      exact ⟨by first | (rw [RH.out]; done) | (rw [RH.out]; rfl), BN.out⟩
    have HR1 : Hid (runB ⟨rb, rt, rs, rn, P⟩ = pickB rb P) := Lib.hid (by unfold runB; simp only; rw [decide_eq_true (by omega : 0 ≤ rt), decide_eq_true (by omega : 0 ≤ rs), decide_eq_true (by omega : rs < 64)]; rfl)
    rw [HR1.out] at AF NX
    cases hpk : pickB rb P
    · rw [hpk] at PK
      have RH : Hid (kb = false) := Lib.hid (by rw [← HF.out]; exact AF.out hpk)
      clear NX AF hpk HR1
      go_wp2_with fail
      refine PK.out.mono ?_
      rintro e w3 ⟨rfl, b3⟩
      have B3 := Lib.hid (BN.out.trans (b3.mono BN.out.size))
      clear b3
      go_wp2_with fail
      go_ret
      exact ⟨by first | (rw [RH.out]; done) | (rw [RH.out]; rfl), B3.out⟩
    · rw [hpk] at PK
      have NX1 := Lib.hid (NX.out hpk)
      clear NX AF hpk HR1
      go_wp2_with fail
      refine PK.out.mono ?_
      rintro e w3 ⟨rfl, b3⟩
      have B3 := Lib.hid (BN.out.trans (b3.mono BN.out.size))
      have R3 := Lib.hid (RN.out.below b3)
      clear b3
      go_wp2_with fail
      go_roundw
      case rel => exact ⟨j + 1, by go_num, by omega, NX1.out, B3.out, R3.out⟩
      case measure => simp [intOf]; omega
end Go.Proofs.Ytifdljdnpdefgaa
