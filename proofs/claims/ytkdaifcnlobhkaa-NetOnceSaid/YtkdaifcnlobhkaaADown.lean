/-
  THE WALK OF heap.down.
-/
import Derived.Test.YtkdaifcnlobhkaaAMeth
namespace Go.Proofs.Ytkdaifcnlobhkaa.Ag
open Go.RowKit
/-- what a mending downwards leaves, and tells -/
def Downed (w : World) (B A g cap N : Nat) (Z : Int) (l : List It) (n b : Nat) (e : Ending) (w' : World) : Prop :=
  ∃ (l' : List It) (m : Bool), e = .returned (.bool m) ∧ l'.Perm l ∧ (m = true → HeapOn l' n) ∧ (m = false → l' = l ∧ ∀ k, 0 < k → k < n → k ≠ b → ¬ (at_ l k).lt (at_ l ((k - 1) / 2))) ∧
    (∀ k, n ≤ k → at_ l' k = at_ l k) ∧ HA w' B A g cap N Z l' ∧ w.grownBy w' (some g)
theorem downed {w w' : World} {B A g cap N : Nat} {Z : Int} {l l' : List It} {n b k : Nat} (hb : b ≤ k) (hI : DnInv l' n b k) (hs : ∀ q, 0 < q → q < n → (q - 1) / 2 = k → ¬ (at_ l' q).lt (at_ l' k)) (hP : l'.Perm l)
    (hE : ∀ k, n ≤ k → at_ l' k = at_ l k) (h0 : k = b → l' = l) (hA : HA w' B A g cap N Z l') (hG : w.grownBy w' (some g)) {m : Bool} (hm : m = decide (b < k)) : Downed w B A g cap N Z l n b (.returned (.bool m)) w' := by
  obtain ⟨d1, d2⟩ := dn_stop hI hs
  refine ⟨l', m, rfl, hP, fun h => d1 ?_, fun h => ?_, hE, hA, hG⟩
  · rw [hm] at h; have := of_decide_eq_true h; omega
  · rw [hm] at h
    have := of_decide_eq_false h
    have e : k = b := by omega
    have el := h0 e
    subst el
    exact ⟨rfl, d2 e⟩
theorem min_of {l : List It} {n k : Nat} (j : Nat) (h1 : ¬ (at_ l (2 * k + 1)).lt (at_ l j)) (h2 : ¬ (at_ l (2 * k + 2)).lt (at_ l j)) : ∀ q, 0 < q → q < n → (q - 1) / 2 = k → ¬ (at_ l q).lt (at_ l j) := by
  intro q q0 qn qe
  have : q = 2 * k + 1 ∨ q = 2 * k + 2 := by omega
  rcases this with rfl | rfl
  · exact h1
  · exact h2
theorem min_one {l : List It} {n k : Nat} (h : n ≤ 2 * k + 2) : ∀ q, 0 < q → q < n → (q - 1) / 2 = k → ¬ (at_ l q).lt (at_ l (2 * k + 1)) := by
  intro q q0 qn qe
  obtain rfl : q = 2 * k + 1 := by omega
  exact lt_irrefl _
set_option maxHeartbeats 4000000 in
set_option maxRecDepth 100000 in
theorem down_any (B A g cap N : Nat) (Z : Int) (l : List It) (n b : Nat) (w : World) (h : HA w B A g cap N Z l) (hu : DnInv l n b b) (hbN : b ≤ N) :
    Calls Try.prog 63 #[.iface 103 (.pointer (some ⟨A, 0, none⟩)), .int .i64 b, .int .i64 n] w (Downed w B A g cap N Z l n b) := by
  have hsm := h.small
  have u2 : n ≤ N := by have := h.len; have := hu.2.1; omega
  have HU := Lib.hid hu
  clear hu
  go_enter Try.func63, Try.ntmps63
  go_wp2_with fail
  go_loopw [7] (fun x wr => ∃ (k : Nat) (l' : List It), x = .int .i64 k ∧ b ≤ k ∧ k ≤ N ∧ HA wr B A g cap N Z l' ∧ DnInv l' n b k ∧ l'.Perm l ∧ (∀ k, n ≤ k → at_ l' k = at_ l k) ∧ w.grownBy wr (some g) ∧ (k = b → l' = l)) (fun x _ => N - (intOf x).toNat)
  case atStart => exact ⟨b, l, rfl, Nat.le_refl _, hbN, h, HU.out, List.Perm.refl _, fun _ _ => rfl, grown_refl _ _, fun _ => rfl⟩
  case round =>
    obtain ⟨k, l', rfl, hbk, hk, hA, hI, hP, hE, hG, h0⟩ := hrel
    have HI := Lib.hid hI
    have HP := Lib.hid hP
    have HE := Lib.hid hE
    have HG := Lib.hid hG
    have H0 := Lib.hid h0
    clear hI hP hE hG h0 HU
    have ll : Hid (l'.length = N) := Lib.hid hA.len
    by_cases hn : n ≤ 2 * k + 1
    · have q1 : (n : Int) ≤ 2 * (k : Int) + 1 := by omega
      go_wp2_with fail
      go_ret
      exact downed hbk HI.out (fun q q0 qn qe => by omega) HP.out HE.out H0.out hA HG.out rfl
    · have q1 : 2 * (k : Int) + 1 < (n : Int) := by omega
      have M := meth_less A _ wr hA.cell
      by_cases hn2 : n ≤ 2 * k + 2
      · have q2 : (n : Int) ≤ 2 * (k : Int) + 1 + 1 := by omega
        have HM : Hid (∀ q, 0 < q → q < n → (q - 1) / 2 = k → ¬ (at_ l' q).lt (at_ l' (2 * k + 1))) := Lib.hid (min_one hn2)
        by_cases c2 : (at_ l' (2 * k + 1)).lt (at_ l' k)
        · have L2 := less_i hA (x := 2 * (k : Int) + 1) (y := k) (2 * k + 1) k (by omega) rfl (by omega) (by omega) true (decide_eq_true c2)
          have HI2 := Lib.hid (dn_step HI.out (j := 2 * k + 1) (by omega) (by omega) (by omega) HM.out c2)
          have HP2 := Lib.hid ((swp_perm (l := l') (i := k) (j := 2 * k + 1) (by have := ll.out; omega) (by have := ll.out; omega)).trans HP.out)
          have HE2 : Hid (∀ m, n ≤ m → at_ (swp l' k (2 * k + 1)) m = at_ l m) := Lib.hid (fun m hm => by rw [at_swp (by have := ll.out; omega) (by have := ll.out; omega), if_neg (by omega), if_neg (by omega)]; exact HE.out m hm)
          clear c2
          go_wp2_with fail
          refine L2.mono ?_
          rintro r w2 ⟨rfl, b2⟩
          have hA2 := hA.below b2
          have G2 := Lib.hid (World.grownBy.trans' HG.out (grown_below b2 _))
          have M2 := meth_swap A _ w2 hA2.cell
          have S := swap_i hA2 (x := k) (y := 2 * (k : Int) + 1) k (2 * k + 1) rfl (by omega) (by omega) (by omega)
          clear b2 L2
          go_wp2_with fail
          refine S.mono ?_
          rintro r w3 ⟨rfl, hA3, g3⟩
          have G3 := Lib.hid (World.grownBy.trans' G2.out g3)
          clear g3 M2 S
          go_wp2_with fail
          go_roundw
          case rel => exact ⟨2 * k + 1, _, by go_num, by omega, by omega, hA3, HI2.out, HP2.out, HE2.out, G3.out, fun e => by omega⟩
          case measure => simp [intOf]; omega
        · have L2 := less_i hA (x := 2 * (k : Int) + 1) (y := k) (2 * k + 1) k (by omega) rfl (by omega) (by omega) false (decide_eq_false c2)
          have HS := Lib.hid (fun q q0 qn qe => le_trans c2 (HM.out q q0 qn qe))
          clear c2
          go_wp2_with fail
          refine L2.mono ?_
          rintro r w2 ⟨rfl, b2⟩
          have hA2 := hA.below b2
          have G2 := Lib.hid (World.grownBy.trans' HG.out (grown_below b2 _))
          clear b2 L2
          go_wp2_with fail
          go_ret
          exact downed hbk HI.out HS.out HP.out HE.out H0.out hA2 G2.out rfl
      · have q2 : 2 * (k : Int) + 1 + 1 < (n : Int) := by omega
        by_cases c1 : (at_ l' (2 * k + 2)).lt (at_ l' (2 * k + 1))
        · have L1 := less_i hA (x := 2 * (k : Int) + 1 + 1) (y := 2 * (k : Int) + 1) (2 * k + 2) (2 * k + 1) (by omega) (by omega) (by omega) (by omega) true (decide_eq_true c1)
          have C1 := Lib.hid c1
          clear c1
          go_wp2_with fail
          refine L1.mono ?_
          rintro r w1 ⟨rfl, b1⟩
          have hA1 := hA.below b1
          have G1 := Lib.hid (World.grownBy.trans' HG.out (grown_below b1 _))
          have M1 := meth_less A _ w1 hA1.cell
          clear b1 L1 M
          have HM : Hid (∀ q, 0 < q → q < n → (q - 1) / 2 = k → ¬ (at_ l' q).lt (at_ l' (2 * k + 2))) := Lib.hid (min_of (2 * k + 2) (lt_asymm C1.out) (lt_irrefl _))
          by_cases c2 : (at_ l' (2 * k + 2)).lt (at_ l' k)
          · have L2 := less_i hA1 (x := 2 * (k : Int) + 1 + 1) (y := k) (2 * k + 2) k (by omega) rfl (by omega) (by omega) true (decide_eq_true c2)
            have HI2 := Lib.hid (dn_step HI.out (j := 2 * k + 2) (by omega) (by omega) (by omega) HM.out c2)
            have HP2 := Lib.hid ((swp_perm (l := l') (i := k) (j := 2 * k + 2) (by have := ll.out; omega) (by have := ll.out; omega)).trans HP.out)
            have HE2 : Hid (∀ m, n ≤ m → at_ (swp l' k (2 * k + 2)) m = at_ l m) := Lib.hid (fun m hm => by rw [at_swp (by have := ll.out; omega) (by have := ll.out; omega), if_neg (by omega), if_neg (by omega)]; exact HE.out m hm)
            clear c2
            go_wp2_with fail
            refine L2.mono ?_
            rintro r w2 ⟨rfl, b2⟩
            have hA2 := hA1.below b2
            have G2 := Lib.hid (World.grownBy.trans' G1.out (grown_below b2 _))
            have M2 := meth_swap A _ w2 hA2.cell
            have S := swap_i hA2 (x := k) (y := 2 * (k : Int) + 1 + 1) k (2 * k + 2) rfl (by omega) (by omega) (by omega)
            clear b2 L2
            go_wp2_with fail
            refine S.mono ?_
            rintro r w3 ⟨rfl, hA3, g3⟩
            have G3 := Lib.hid (World.grownBy.trans' G2.out g3)
            clear g3 M2 S
            go_wp2_with fail
            go_roundw
            case rel => exact ⟨2 * k + 2, _, by go_num, by omega, by omega, hA3, HI2.out, HP2.out, HE2.out, G3.out, fun e => by omega⟩
            case measure => simp [intOf]; omega
          · have L2 := less_i hA1 (x := 2 * (k : Int) + 1 + 1) (y := k) (2 * k + 2) k (by omega) rfl (by omega) (by omega) false (decide_eq_false c2)
            have HS := Lib.hid (fun q q0 qn qe => le_trans c2 (HM.out q q0 qn qe))
            clear c2
            go_wp2_with fail
            refine L2.mono ?_
            rintro r w2 ⟨rfl, b2⟩
            have hA2 := hA1.below b2
            have G2 := Lib.hid (World.grownBy.trans' G1.out (grown_below b2 _))
            clear b2 L2
            go_wp2_with fail
            go_ret
            exact downed hbk HI.out HS.out HP.out HE.out H0.out hA2 G2.out rfl
        · have L1 := less_i hA (x := 2 * (k : Int) + 1 + 1) (y := 2 * (k : Int) + 1) (2 * k + 2) (2 * k + 1) (by omega) (by omega) (by omega) (by omega) false (decide_eq_false c1)
          have C1 := Lib.hid c1
          clear c1
          go_wp2_with fail
          refine L1.mono ?_
          rintro r w1 ⟨rfl, b1⟩
          have hA1 := hA.below b1
          have G1 := Lib.hid (World.grownBy.trans' HG.out (grown_below b1 _))
          have M1 := meth_less A _ w1 hA1.cell
          clear b1 L1 M
          have HM : Hid (∀ q, 0 < q → q < n → (q - 1) / 2 = k → ¬ (at_ l' q).lt (at_ l' (2 * k + 1))) := Lib.hid (min_of (2 * k + 1) (lt_irrefl _) C1.out)
          by_cases c2 : (at_ l' (2 * k + 1)).lt (at_ l' k)
          · have L2 := less_i hA1 (x := 2 * (k : Int) + 1) (y := k) (2 * k + 1) k (by omega) rfl (by omega) (by omega) true (decide_eq_true c2)
            have HI2 := Lib.hid (dn_step HI.out (j := 2 * k + 1) (by omega) (by omega) (by omega) HM.out c2)
            have HP2 := Lib.hid ((swp_perm (l := l') (i := k) (j := 2 * k + 1) (by have := ll.out; omega) (by have := ll.out; omega)).trans HP.out)
            have HE2 : Hid (∀ m, n ≤ m → at_ (swp l' k (2 * k + 1)) m = at_ l m) := Lib.hid (fun m hm => by rw [at_swp (by have := ll.out; omega) (by have := ll.out; omega), if_neg (by omega), if_neg (by omega)]; exact HE.out m hm)
            clear c2
            go_wp2_with fail
            refine L2.mono ?_
            rintro r w2 ⟨rfl, b2⟩
            have hA2 := hA1.below b2
            have G2 := Lib.hid (World.grownBy.trans' G1.out (grown_below b2 _))
            have M2 := meth_swap A _ w2 hA2.cell
            have S := swap_i hA2 (x := k) (y := 2 * (k : Int) + 1) k (2 * k + 1) rfl (by omega) (by omega) (by omega)
            clear b2 L2
            go_wp2_with fail
            refine S.mono ?_
            rintro r w3 ⟨rfl, hA3, g3⟩
            have G3 := Lib.hid (World.grownBy.trans' G2.out g3)
            clear g3 M2 S
            go_wp2_with fail
            go_roundw
            case rel => exact ⟨2 * k + 1, _, by go_num, by omega, by omega, hA3, HI2.out, HP2.out, HE2.out, G3.out, fun e => by omega⟩
            case measure => simp [intOf]; omega
          · have L2 := less_i hA1 (x := 2 * (k : Int) + 1) (y := k) (2 * k + 1) k (by omega) rfl (by omega) (by omega) false (decide_eq_false c2)
            have HS := Lib.hid (fun q q0 qn qe => le_trans c2 (HM.out q q0 qn qe))
            clear c2
            go_wp2_with fail
            refine L2.mono ?_
            rintro r w2 ⟨rfl, b2⟩
            have hA2 := hA1.below b2
            have G2 := Lib.hid (World.grownBy.trans' G1.out (grown_below b2 _))
            clear b2 L2
            go_wp2_with fail
            go_ret
            exact downed hbk HI.out HS.out HP.out HE.out H0.out hA2 G2.out rfl
end Go.Proofs.Ytkdaifcnlobhkaa.Ag
