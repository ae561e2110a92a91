/-
  THE WALKS OF real.Ends and of the document's own, and of the law RealEnds.
-/
import Derived.Test.YtiklaaganiafjaaLaws
import Derived.Deep.QuietTactic
import Derived.BigQuiet
namespace Go.Proofs.Ytiklaaganiafjaa
open Go.RowKit
/-- real numbers in memory -/
def Flts (w : World) (a : Option Addr) (xs : List Nat) : Prop := ∀ i (h : i < xs.length), ∃ b o, a = some ⟨b, o, none⟩ ∧ b < w.heap.size ∧ w.cell? ⟨b, o + i, none⟩ = some (.float .f64 xs[i])
/-- one number more: the places of the least and the most, and how many are some -/
def estep (xs : List Nat) (s : Int × Int × Nat) (k : Nat) : Int × Int × Nat :=
  if isNan (xs.getD k 0) then s
  else (if s.1 < 0 ∨ rankN (xs.getD k 0) < rankN (xs.getD s.1.toNat 0) then (k : Int) else s.1, if s.2.1 < 0 ∨ rankN (xs.getD s.2.1.toNat 0) < rankN (xs.getD k 0) then (k : Int) else s.2.1, s.2.2 + 1)
def est (xs : List Nat) : Nat → Int × Int × Nat
  | 0 => (-1, -1, 0)
  | k + 1 => estep xs (est xs k) k
def EstInv (s : Int × Int × Nat) (k : Nat) : Prop := (s.2.2 = 0 ∧ s.1 = -1 ∧ s.2.1 = -1 ∨ 0 < s.2.2 ∧ 0 ≤ s.1 ∧ 0 ≤ s.2.1) ∧ s.1 < k ∧ s.2.1 < k ∧ s.2.2 ≤ k
theorem est_inv (xs : List Nat) (k : Nat) : EstInv (est xs k) k := by
  induction k with
  | zero => exact ⟨.inl ⟨rfl, rfl, rfl⟩, by show (-1 : Int) < 0; decide, by show (-1 : Int) < 0; decide, Nat.le_refl _⟩
  | succ k ih =>
    show EstInv (estep xs (est xs k) k) (k + 1)
    unfold estep
    generalize est xs k = s at *
    obtain ⟨a, b, n⟩ := s
    unfold EstInv at *
    dsimp only at *
    split
    · dsimp only; omega
    · dsimp only; split <;> split <;> omega
theorem rank_last {x : Nat} (hx : x < 18446744073709551616) : (((rankN x : Nat) : Int) == 18446744073709551615) = isNan x := by
  have h' := isNan_iff x
  apply Bool.eq_iff_iff.2
  rw [h']
  unfold rankN
  simp only [beq_iff_eq]
  by_cases h : isNan x = true
  · rw [if_pos h]; simp [h'.1 h]
  · rw [if_neg h]
    have h2 := mt h'.2 h
    split <;> omega
/-- the least (or the most) at a place, 0 of none -/
def atI (xs : List Nat) (i : Int) : Nat := if i < 0 then 0 else xs.getD i.toNat 0
theorem less_q (x y : Nat) (hx : x < 18446744073709551616) (hy : y < 18446744073709551616) (b : Bool) (hb : decide (rankN x < rankN y) = b) (w : World) : Calls Try.prog 13 #[.float .f64 x, .float .f64 y] w fun r w' => r = .returned (.bool b) ∧ w = w' := by
  rw [← hb]; exact less_any x y hx hy w
theorem ret_ffi {a b c d : Nat} {n m : Int} (h : a = b) (h' : c = d) (h'' : n = m) : Ending.returned (.tuple #[.float .f64 a, .float .f64 c, .int .i64 n]) = .returned (.tuple #[.float .f64 b, .float .f64 d, .int .i64 m]) := by rw [h, h', h'']
theorem getD_lt {xs : List Nat} (hx : ∀ x ∈ xs, x < 18446744073709551616) (i : Nat) : xs.getD i 0 < 18446744073709551616 := by
  rw [List.getD_eq_getElem?_getD]
  by_cases h : i < xs.length
  · rw [List.getElem?_eq_getElem h]; exact hx _ (List.getElem_mem h)
  · rw [List.getElem?_eq_none (by omega)]; decide
theorem atI_lt {xs : List Nat} (hx : ∀ x ∈ xs, x < 18446744073709551616) (i : Int) : atI xs i < 18446744073709551616 := by
  unfold atI
  split
  · decide
  · exact getD_lt hx _
def Next (x F F' M M' n n' : Nat) : Prop :=
  (isNan x = true ∧ F' = F ∧ M' = M ∧ n' = n) ∨ (isNan x = false ∧ n = 0 ∧ F' = x ∧ M' = x ∧ n' = 1) ∨
  (isNan x = false ∧ 0 < n ∧ F' = (if rankN x < rankN F then x else F) ∧ M' = (if rankN M < rankN x then x else M) ∧ n' = n + 1)
theorem est_next (xs : List Nat) (k : Nat) (hlt : k < xs.length) :
    Next xs[k] (atI xs (est xs k).1) (atI xs (est xs (k + 1)).1) (atI xs (est xs k).2.1) (atI xs (est xs (k + 1)).2.1) (est xs k).2.2 (est xs (k + 1)).2.2 := by
  have inv := est_inv xs k
  have hget : xs.getD k 0 = xs[k] := by rw [List.getD_eq_getElem?_getD, List.getElem?_eq_getElem hlt]; rfl
  have hat : atI xs (k : Int) = xs[k] := by unfold atI; rw [if_neg (by omega)]; exact hget
  show Next _ _ (atI xs (estep xs (est xs k) k).1) _ (atI xs (estep xs (est xs k) k).2.1) _ (estep xs (est xs k) k).2.2
  unfold estep
  rw [hget]
  generalize est xs k = s at *
  obtain ⟨a, b, n⟩ := s
  unfold EstInv at inv
  dsimp only at *
  unfold Next
  by_cases h : isNan xs[k] = true
  · rw [if_pos h]; exact .inl ⟨h, rfl, rfl, rfl⟩
  · have h' : isNan xs[k] = false := by simpa using h
    rw [if_neg h]
    rcases inv.1 with ⟨i1, i2, i3⟩ | ⟨i1, i2, i3⟩
    · refine .inr (.inl ⟨h', i1, ?_, ?_, ?_⟩)
      · dsimp only; rw [if_pos (.inl (by omega)), hat]
      · dsimp only; rw [if_pos (.inl (by omega)), hat]
      · dsimp only; omega
    · have e1 : atI xs a = xs.getD a.toNat 0 := by unfold atI; rw [if_neg (by omega)]
      have e2 : atI xs b = xs.getD b.toNat 0 := by unfold atI; rw [if_neg (by omega)]
      refine .inr (.inr ⟨h', i1, ?_, ?_, rfl⟩)
      · dsimp only
        rw [e1]
        by_cases c : rankN xs[k] < rankN (xs.getD a.toNat 0)
        · rw [if_pos (.inr c), if_pos c, hat]
        · rw [if_neg (by omega), if_neg c, e1]
      · dsimp only
        rw [e2]
        by_cases c : rankN (xs.getD b.toNat 0) < rankN xs[k]
        · rw [if_pos (.inr c), if_pos c, hat]
        · rw [if_neg (by omega), if_neg c, e2]
set_option maxHeartbeats 2000000 in
theorem ends_any (a : Option Addr) (c : Nat) (xs : List Nat) (w : World) (hl : xs.length ≤ 9223372036854775807) (hx : ∀ x ∈ xs, x < 18446744073709551616) (hf : Flts w a xs) :
    Calls Try.prog 23 #[.slice a xs.length c] w fun r w' => r = .returned (.tuple #[.float .f64 (atI xs (est xs xs.length).1), .float .f64 (atI xs (est xs xs.length).2.1), .int .i64 ((est xs xs.length).2.2 : Nat)]) ∧ w = w' := by
  go_enter Try.func23, Try.ntmps23
  go_wp2
  go_loop [2, 3, 4, 9] (fun f m n i => ∃ k : Nat, k ≤ xs.length ∧ i = .int .i64 k ∧ f = .float .f64 (atI xs (est xs k).1) ∧ m = .float .f64 (atI xs (est xs k).2.1) ∧ n = .int .i64 ((est xs k).2.2 : Nat)) (fun _ _ _ i => xs.length - (intOf i).toNat)
  case atStart => exact ⟨0, Nat.zero_le _, rfl, rfl, rfl, rfl⟩
  case round =>
    obtain ⟨k, hk, rfl, rfl, rfl, rfl⟩ := hrel
    by_cases hlt : k < xs.length
    · obtain ⟨b, o, rfl, _, hcell⟩ := hf k hlt
      have nx := est_next xs k hlt
      have hxk : xs[k] < 18446744073709551616 := hx _ (List.getElem_mem hlt)
      have R := rank_any xs[k] hxk
      have L := rank_last hxk
      have g1 := atI_lt hx (est xs k).1
      have g2 := atI_lt hx (est xs k).2.1
      have hn : (est xs k).2.2 ≤ k := (est_inv xs k).2.2.2
      have F' : ∃ f m n, f = atI xs (est xs (k + 1)).1 ∧ m = atI xs (est xs (k + 1)).2.1 ∧ n = (est xs (k + 1)).2.2 := ⟨_, _, _, rfl, rfl, rfl⟩
      obtain ⟨f', m', n', hf', hm', hn'⟩ := F'
      rw [← hf', ← hm', ← hn'] at nx
      have HF := Lib.hid hf'
      have HM := Lib.hid hm'
      have HN := Lib.hid hn'
      clear hf' hm' hn'
      generalize xs[k] = x at *
      generalize atI xs (est xs k).1 = F at *
      generalize atI xs (est xs k).2.1 = M at *
      generalize (est xs k).2.2 = n at *
      rcases nx with ⟨hnan, rfl, rfl, rfl⟩ | ⟨hnan, rfl, rfl, rfl, rfl⟩ | ⟨hnan, hn0, rfl, rfl, rfl⟩
      · rw [hnan] at L
        go_wp2_with fail
        refine (R _).mono ?_
        rintro r w1 ⟨rfl, rfl⟩
        go_wp2_with fail
        go_round
        case rel => exact ⟨k + 1, by omega, by go_num, by rw [← HF.out], by rw [← HM.out], by rw [← HN.out]⟩
        case measure => simp [intOf]; omega
      · rw [hnan] at L
        go_wp2_with fail
        refine (R _).mono ?_
        rintro r w1 ⟨rfl, rfl⟩
        go_wp2_with fail
        go_round
        case rel => exact ⟨k + 1, by omega, by go_num, by rw [← HF.out], by rw [← HM.out], by rw [← HN.out]; rfl⟩
        case measure => simp [intOf]; omega
      · rw [hnan] at L
        have z : ((n : Int) == 0) = false := by simp; omega
        have L1 := less_q x F hxk g1 _ rfl
        have L2 := less_q M x g2 hxk _ rfl
        by_cases c1 : rankN x < rankN F
        · rw [if_pos c1] at HF
          rw [decide_eq_true c1] at L1
          by_cases c2 : rankN M < rankN x
          · rw [if_pos c2] at HM
            rw [decide_eq_true c2] at L2
            clear c1 c2
            go_wp2_with (first | (go_at_call 12; refine (R _).mono ?_; rintro r w1 ⟨rfl, rfl⟩) | (go_at_call 13; (first | (with_reducible refine (L1 _).mono ?_) | (with_reducible refine (L2 _).mono ?_)); rintro r w1 ⟨rfl, rfl⟩))
            go_round
            case rel => exact ⟨k + 1, by omega, by go_num, by rw [← HF.out], by rw [← HM.out], by rw [← HN.out]; go_num⟩
            case measure => simp [intOf]; omega
          · rw [if_neg c2] at HM
            rw [decide_eq_false c2] at L2
            clear c1 c2
            go_wp2_with (first | (go_at_call 12; refine (R _).mono ?_; rintro r w1 ⟨rfl, rfl⟩) | (go_at_call 13; (first | (with_reducible refine (L1 _).mono ?_) | (with_reducible refine (L2 _).mono ?_)); rintro r w1 ⟨rfl, rfl⟩))
            go_round
            case rel => exact ⟨k + 1, by omega, by go_num, by rw [← HF.out], by rw [← HM.out], by rw [← HN.out]; go_num⟩
            case measure => simp [intOf]; omega
        · rw [if_neg c1] at HF
          rw [decide_eq_false c1] at L1
          by_cases c2 : rankN M < rankN x
          · rw [if_pos c2] at HM
            rw [decide_eq_true c2] at L2
            clear c1 c2
            go_wp2_with (first | (go_at_call 12; refine (R _).mono ?_; rintro r w1 ⟨rfl, rfl⟩) | (go_at_call 13; (first | (with_reducible refine (L1 _).mono ?_) | (with_reducible refine (L2 _).mono ?_)); rintro r w1 ⟨rfl, rfl⟩))
            go_round
            case rel => exact ⟨k + 1, by omega, by go_num, by rw [← HF.out], by rw [← HM.out], by rw [← HN.out]; go_num⟩
            case measure => simp [intOf]; omega
          · rw [if_neg c2] at HM
            rw [decide_eq_false c2] at L2
            clear c1 c2
            go_wp2_with (first | (go_at_call 12; refine (R _).mono ?_; rintro r w1 ⟨rfl, rfl⟩) | (go_at_call 13; (first | (with_reducible refine (L1 _).mono ?_) | (with_reducible refine (L2 _).mono ?_)); rintro r w1 ⟨rfl, rfl⟩))
            go_round
            case rel => exact ⟨k + 1, by omega, by go_num, by rw [← HF.out], by rw [← HM.out], by rw [← HN.out]; go_num⟩
            case measure => simp [intOf]; omega
    · obtain rfl : k = xs.length := by omega
      go_wp2
      go_ret3
      exact ⟨rfl, rfl⟩
theorem rrank_q (x : Nat) (hx : x < 18446744073709551616) (w : World) : Calls Try.prog 10 #[.float .f64 x] w fun r w' => r = .returned (.int .u64 (rankN x : Nat)) ∧ w' = w :=
  (rrank_any x hx w).mono fun _ _ ⟨h, h'⟩ => ⟨h, h'.symm⟩
theorem flt_cell {w : World} {b o : Nat} {xs : List Nat} (hf : Flts w (some ⟨b, o, none⟩) xs) {i : Int} (h0 : 0 ≤ i) (h1 : i < xs.length) : w.cell? ⟨b, o + i.toNat, none⟩ = some (.float .f64 (atI xs i)) := by
  obtain ⟨b', o', he, _, hc⟩ := hf i.toNat (by omega)
  cases he
  rw [hc]
  unfold atI
  rw [if_neg (by omega), List.getD_eq_getElem?_getD, List.getElem?_eq_getElem (by omega)]
  rfl
/-- the places, one number more -/
theorem est_places (xs : List Nat) (k : Nat) (hlt : k < xs.length) :
    (isNan xs[k] = true ∧ est xs (k + 1) = est xs k) ∨ (isNan xs[k] = false ∧ (est xs k).2.2 = 0 ∧ (est xs k).1 = -1 ∧ (est xs k).2.1 = -1 ∧ est xs (k + 1) = ((k : Int), (k : Int), 1)) ∨
    (isNan xs[k] = false ∧ 0 < (est xs k).2.2 ∧ 0 ≤ (est xs k).1 ∧ 0 ≤ (est xs k).2.1 ∧
      est xs (k + 1) = (if rankN xs[k] < rankN (atI xs (est xs k).1) then (k : Int) else (est xs k).1, if rankN (atI xs (est xs k).2.1) < rankN xs[k] then (k : Int) else (est xs k).2.1, (est xs k).2.2 + 1)) := by
  have inv := est_inv xs k
  have hget : xs.getD k 0 = xs[k] := by rw [List.getD_eq_getElem?_getD, List.getElem?_eq_getElem hlt]; rfl
  have hs : est xs (k + 1) = estep xs (est xs k) k := rfl
  rw [hs]
  unfold estep
  rw [hget]
  generalize est xs k = s at *
  obtain ⟨a, b, n⟩ := s
  unfold EstInv at inv
  dsimp only at *
  by_cases h : isNan xs[k] = true
  · rw [if_pos h]; exact .inl ⟨h, rfl⟩
  · have h' : isNan xs[k] = false := by simpa using h
    rw [if_neg h]
    rcases inv.1 with ⟨i1, i2, i3⟩ | ⟨i1, i2, i3⟩
    · refine .inr (.inl ⟨h', i1, i2, i3, ?_⟩)
      rw [if_pos (.inl (by omega)), if_pos (.inl (by omega)), i1]
    · have e1 : atI xs a = xs.getD a.toNat 0 := by unfold atI; rw [if_neg (by omega)]
      have e2 : atI xs b = xs.getD b.toNat 0 := by unfold atI; rw [if_neg (by omega)]
      refine .inr (.inr ⟨h', i1, i2, i3, ?_⟩)
      rw [e1, e2]
      have q1 : (a < 0 ∨ rankN xs[k] < rankN (xs.getD a.toNat 0)) ↔ rankN xs[k] < rankN (xs.getD a.toNat 0) := by omega
      have q2 : (b < 0 ∨ rankN (xs.getD b.toNat 0) < rankN xs[k]) ↔ rankN (xs.getD b.toNat 0) < rankN xs[k] := by omega
      simp only [q1, q2]
theorem ret_iii {a b c d n m : Int} (h : a = b) (h' : c = d) (h'' : n = m) : Ending.returned (.tuple #[.int .i64 a, .int .i64 c, .int .i64 n]) = .returned (.tuple #[.int .i64 b, .int .i64 d, .int .i64 m]) := by rw [h, h', h'']
set_option maxHeartbeats 4000000 in
theorem rends_any (a : Option Addr) (c : Nat) (xs : List Nat) (w : World) (hl : xs.length ≤ 9223372036854775807) (hx : ∀ x ∈ xs, x < 18446744073709551616) (hf : Flts w a xs) :
    Calls Try.prog 24 #[.slice a xs.length c] w fun r w' => r = .returned (.tuple #[.int .i64 (est xs xs.length).1, .int .i64 (est xs xs.length).2.1, .int .i64 ((est xs xs.length).2.2 : Nat)]) ∧ ∃ n, w' = w.drewN n := by
  go_enter Try.func24, Try.ntmps24
  go_wp2
  go_loopw [5, 6, 7, 8] (fun f m n i wr => ∃ k q : Nat, k ≤ xs.length ∧ i = .int .i64 k ∧ f = .int .i64 (est xs k).1 ∧ m = .int .i64 (est xs k).2.1 ∧ n = .int .i64 ((est xs k).2.2 : Nat) ∧ wr = w.drewN q) (fun _ _ _ i _ => xs.length - (intOf i).toNat)
  case atStart => exact ⟨0, 0, Nat.zero_le _, rfl, rfl, rfl, rfl, rfl⟩
  case round =>
    obtain ⟨k, q, hk, rfl, rfl, rfl, rfl, hwr⟩ := hrel
    have hfr : Flts wr a xs := by rw [hwr]; exact hf
    have HWR := Lib.hid hwr
    clear hwr hf
    by_cases hlt : k < xs.length
    · obtain ⟨b, o, rfl, _, hcell⟩ := hfr k hlt
      have nx := est_places xs k hlt
      have hxk : xs[k] < 18446744073709551616 := hx _ (List.getElem_mem hlt)
      have hb := run_bits xs[k]
      have N := nan_any xs[k] hxk
      have inv := est_inv xs k
      unfold EstInv at inv
      have i2 := inv.2.1
      have i3 := inv.2.2.1
      have i4 := inv.2.2.2
      clear inv
      rcases nx with ⟨hnan, hs⟩ | ⟨hnan, hn0, ha, hb', hs⟩ | ⟨hnan, hn0, ha, hb', hs⟩
      · have HS := Lib.hid hs
        clear hs
        rw [hnan] at N
        generalize xs[k] = x at *
        go_wp2_with fail
        refine (N _).mono ?_
        rintro r w1 ⟨rfl, rfl⟩
        go_wp2_with fail
        go_roundw
        case rel => exact ⟨k + 1, _, by omega, by go_num, by rw [HS.out], by rw [HS.out], by rw [HS.out], HWR.out⟩
        case measure => simp [intOf]; omega
      · have HS := Lib.hid hs
        rw [hnan] at N
        have V1 := Lib.hid ha
        have V2 := Lib.hid hb'
        have V3 := Lib.hid hn0
        rw [ha, hb', hn0]
        clear hs ha hb' hn0 i2 i3 i4
        generalize xs[k] = x at *
        go_wp2_with fail
        refine (N _).mono ?_
        rintro r w1 ⟨rfl, rfl⟩
        go_wp2_with fail
        go_quiet (fail)
        go_wp2_with fail
        go_quiet (fail)
        go_wp2_with fail
        go_roundw
        case rel => exact ⟨k + 1, _, by omega, by go_num, by rw [HS.out], by rw [HS.out], by rw [HS.out]; rfl, by rw [HWR.out, World.drewN_drewN]⟩
        case measure => simp [intOf]; omega
      · have HS := Lib.hid hs
        rw [hnan] at N
        have c1 := flt_cell hfr ha (by omega)
        have c2 := flt_cell hfr hb' (by omega)
        clear hfr
        have l1 := atI_lt hx (est xs k).1
        have l2 := atI_lt hx (est xs k).2.1
        clear hs
        generalize xs[k] = x at *
        generalize atI xs (est xs k).1 = F at *
        generalize atI xs (est xs k).2.1 = M at *
        generalize hA : (est xs k).1 = A at *
        generalize hB : (est xs k).2.1 = B at *
        generalize hN : (est xs k).2.2 = n at *
        clear hA hB hN
        have z1 : decide (A < 0) = false := by simp; omega
        have z2 : decide (B < 0) = false := by simp; omega
        by_cases p1 : rankN x < rankN F
        · rw [if_pos p1] at HS
          have P1 : (rankN x : Int) < (rankN F : Int) := by omega
          clear p1
          by_cases p2 : rankN M < rankN x
          · rw [if_pos p2] at HS
            have P2 : (rankN M : Int) < (rankN x : Int) := by omega
            clear p2
            go_wp2_with fail
            refine (N _).mono ?_
            rintro r w1 ⟨rfl, rfl⟩
            go_wp2_with fail
            go_quiet ((go_at_call 10; exact Calls.quiet_of_same (rrank_q _ (by assumption) _)))
            obtain ⟨w2, hw2⟩ : ∃ w2 : World, w2 = wr.drewN nq := ⟨_, rfl⟩
            rw [← hw2]
            have d1 : w2.cell? ⟨b, o + k, none⟩ = some (.float .f64 x) := by rw [hw2]; exact hcell
            have d2 : w2.cell? ⟨b, o + B.toNat, none⟩ = some (.float .f64 M) := by rw [hw2]; exact c2
            have HW2 := Lib.hid hw2
            clear hw2 hcell c1 c2
            go_wp2_with fail
            go_quiet ((go_at_call 10; exact Calls.quiet_of_same (rrank_q _ (by assumption) _)))
            go_wp2_with fail
            go_roundw
            case rel => exact ⟨k + 1, _, by omega, by go_num, by rw [HS.out], by rw [HS.out], by rw [HS.out]; go_num, by rw [HW2.out, HWR.out, World.drewN_drewN, World.drewN_drewN]⟩
            case measure => simp [intOf]; omega
          · rw [if_neg p2] at HS
            have P2 : (rankN x : Int) ≤ (rankN M : Int) := by omega
            clear p2
            go_wp2_with fail
            refine (N _).mono ?_
            rintro r w1 ⟨rfl, rfl⟩
            go_wp2_with fail
            go_quiet ((go_at_call 10; exact Calls.quiet_of_same (rrank_q _ (by assumption) _)))
            obtain ⟨w2, hw2⟩ : ∃ w2 : World, w2 = wr.drewN nq := ⟨_, rfl⟩
            rw [← hw2]
            have d1 : w2.cell? ⟨b, o + k, none⟩ = some (.float .f64 x) := by rw [hw2]; exact hcell
            have d2 : w2.cell? ⟨b, o + B.toNat, none⟩ = some (.float .f64 M) := by rw [hw2]; exact c2
            have HW2 := Lib.hid hw2
            clear hw2 hcell c1 c2
            go_wp2_with fail
            go_quiet ((go_at_call 10; exact Calls.quiet_of_same (rrank_q _ (by assumption) _)))
            go_wp2_with fail
            go_roundw
            case rel => exact ⟨k + 1, _, by omega, by go_num, by rw [HS.out], by rw [HS.out], by rw [HS.out]; go_num, by rw [HW2.out, HWR.out, World.drewN_drewN, World.drewN_drewN]⟩
            case measure => simp [intOf]; omega
        · rw [if_neg p1] at HS
          have P1 : (rankN F : Int) ≤ (rankN x : Int) := by omega
          clear p1
          by_cases p2 : rankN M < rankN x
          · rw [if_pos p2] at HS
            have P2 : (rankN M : Int) < (rankN x : Int) := by omega
            clear p2
            go_wp2_with fail
            refine (N _).mono ?_
            rintro r w1 ⟨rfl, rfl⟩
            go_wp2_with fail
            go_quiet ((go_at_call 10; exact Calls.quiet_of_same (rrank_q _ (by assumption) _)))
            obtain ⟨w2, hw2⟩ : ∃ w2 : World, w2 = wr.drewN nq := ⟨_, rfl⟩
            rw [← hw2]
            have d1 : w2.cell? ⟨b, o + k, none⟩ = some (.float .f64 x) := by rw [hw2]; exact hcell
            have d2 : w2.cell? ⟨b, o + B.toNat, none⟩ = some (.float .f64 M) := by rw [hw2]; exact c2
            have HW2 := Lib.hid hw2
            clear hw2 hcell c1 c2
            go_wp2_with fail
            go_quiet ((go_at_call 10; exact Calls.quiet_of_same (rrank_q _ (by assumption) _)))
            go_wp2_with fail
            go_roundw
            case rel => exact ⟨k + 1, _, by omega, by go_num, by rw [HS.out], by rw [HS.out], by rw [HS.out]; go_num, by rw [HW2.out, HWR.out, World.drewN_drewN, World.drewN_drewN]⟩
            case measure => simp [intOf]; omega
          · rw [if_neg p2] at HS
            have P2 : (rankN x : Int) ≤ (rankN M : Int) := by omega
            clear p2
            go_wp2_with fail
            refine (N _).mono ?_
            rintro r w1 ⟨rfl, rfl⟩
            go_wp2_with fail
            go_quiet ((go_at_call 10; exact Calls.quiet_of_same (rrank_q _ (by assumption) _)))
            obtain ⟨w2, hw2⟩ : ∃ w2 : World, w2 = wr.drewN nq := ⟨_, rfl⟩
            rw [← hw2]
            have d1 : w2.cell? ⟨b, o + k, none⟩ = some (.float .f64 x) := by rw [hw2]; exact hcell
            have d2 : w2.cell? ⟨b, o + B.toNat, none⟩ = some (.float .f64 M) := by rw [hw2]; exact c2
            have HW2 := Lib.hid hw2
            clear hw2 hcell c1 c2
            go_wp2_with fail
            go_quiet ((go_at_call 10; exact Calls.quiet_of_same (rrank_q _ (by assumption) _)))
            go_wp2_with fail
            go_roundw
            case rel => exact ⟨k + 1, _, by omega, by go_num, by rw [HS.out], by rw [HS.out], by rw [HS.out]; go_num, by rw [HW2.out, HWR.out, World.drewN_drewN, World.drewN_drewN]⟩
            case measure => simp [intOf]; omega
    · obtain rfl : k = xs.length := by omega
      go_wp2
      go_ret3
      exact ⟨rfl, q, HWR.out⟩
theorem awake_q (w : World) : Calls Try.prog 11 #[] w fun r w' => r = .returned (.bool true) ∧ w' = w :=
  (awake_any w).mono fun _ _ ⟨h, h'⟩ => ⟨h, h'.symm⟩
set_option maxHeartbeats 2000000 in
theorem ends_law (a : Option Addr) (c : Nat) (xs : List Nat) (w : World) (hl : xs.length ≤ 9223372036854775807) (hx : ∀ x ∈ xs, x < 18446744073709551616) (hf : Flts w a xs) :
    Calls Try.prog 7 #[.slice a xs.length c] w fun r w' => r = .returned (.bool true) ∧ ∃ n, w' = w.drewN n := by
  have A := ends_any a c xs w hl hx hf
  have B := rends_any a c xs w hl hx hf
  have inv := est_inv xs xs.length
  unfold EstInv at inv
  obtain ⟨i1, i2, i3, i4⟩ := inv
  rcases i1 with ⟨n0, a0, b0⟩ | ⟨n0, a0, b0⟩
  · rw [n0, a0, b0] at A B
    have e : atI xs (-1) = 0 := rfl
    rw [e] at A
    have hb := run_bits 0
    clear n0 a0 b0 i2 i3 i4 e
    go_enter Try.func7, Try.ntmps7
    go_wp2_with fail
    refine A.mono ?_
    rintro r w1 ⟨rfl, rfl⟩
    go_wp2_with fail
    refine B.mono ?_
    rintro r w1 ⟨rfl, n, rfl⟩
    go_wp2_with fail
    refine (awake_any _).mono ?_
    rintro r w1 ⟨rfl, rfl⟩
    go_wp2_with fail
    go_ret
    exact ⟨rfl, n, rfl⟩
  · have c1 : ∃ b o, a = some ⟨b, o, none⟩ := by
      obtain ⟨b, o, h, _⟩ := hf (est xs xs.length).1.toNat (by omega)
      exact ⟨b, o, h⟩
    obtain ⟨b, o, rfl⟩ := c1
    have c1 := flt_cell hf a0 i2
    have c2 := flt_cell hf b0 i3
    have z : (((est xs xs.length).2.2 : Nat) : Int) ≠ 0 := by omega
    have hb1 := run_bits (atI xs (est xs xs.length).1)
    have hb2 := run_bits (atI xs (est xs xs.length).2.1)
    clear hf hx
    generalize atI xs (est xs xs.length).1 = F at *
    generalize atI xs (est xs xs.length).2.1 = M at *
    generalize (est xs xs.length).1 = p at *
    generalize (est xs xs.length).2.1 = q at *
    generalize (est xs xs.length).2.2 = n at *
    have z' : ((n : Int) == 0) = false := by simp; omega
    clear z
    go_enter Try.func7, Try.ntmps7
    go_wp2_with fail
    refine A.mono ?_
    rintro r w1 ⟨rfl, rfl⟩
    go_wp2_with fail
    refine B.mono ?_
    rintro r w1 ⟨rfl, m, hw1⟩
    have d1 : w1.cell? ⟨b, o + p.toNat, none⟩ = some (.float .f64 F) := by rw [hw1]; exact c1
    have d2 : w1.cell? ⟨b, o + q.toNat, none⟩ = some (.float .f64 M) := by rw [hw1]; exact c2
    have HW := Lib.hid hw1
    clear hw1 c1 c2 A B
    go_wp2_with fail
    go_quiet ((go_at_call 11; exact Calls.quiet_of_same (awake_q _)))
    go_wp2_with fail
    go_ret
    exact ⟨ret_bool (by simp), _, by rw [HW.out, World.drewN_drewN]⟩
end Go.Proofs.Ytiklaaganiafjaa
