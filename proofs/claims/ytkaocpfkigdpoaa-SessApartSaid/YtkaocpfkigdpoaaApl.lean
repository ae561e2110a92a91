/-
  The law of SessApart as a walk (written by wip/tools/gen_apl.py).
-/
import Derived.Test.YtkaocpfkigdpoaaApa
import Derived.Test.YtkaocpfkigdpoaaOpn
import Derived.StillTailTactics
namespace Go.Proofs.Ytkaocpfkigdpoaa
open Go.RowKit
set_option maxHeartbeats 4000000 in
set_option maxRecDepth 100000 in
theorem apart_law (s t : Option Addr) (c d : Nat) (xs ys : List It) (w : World) (hl1 : xs.length ≤ 9223372036854775807) (hl2 : ys.length ≤ 9223372036854775807) (hx : Its w s xs) (hy : Its w t ys) :
    Calls Try.prog 8 #[.slice s xs.length c, .slice t ys.length d] w fun e w' => e = .returned (.bool true) ∧ Below w.heap.size w w' := by
  have X := Lib.hid hx
  have Y := Lib.hid hy
  have TN := Lib.hid (fun w1 w2 a b c d => two_new w w1 w2 a b c d)
  have AW := Lib.hid awake_any
  have FOP := Lib.hid (fun W T U L R (h : Two w W T U L R) (id : Int) => h.open id)
  have FTK := Lib.hid (fun W T U L R (h : Two w W T U L R) (id s : Int) => h.take id s)
  have FTX := Lib.hid (fun W T U L R (h : Two w W T U L R) => h.text)
  have FAL := Lib.hid (fun W T U L R (h : Two w W T U L R) => h.all)
  have FNX := Lib.hid (fun W W' T U L R (h : Two w W T U L R) (b : Below W.heap.size W W') => h.next b)
  have FBL := Lib.hid (fun W T U L R (h : Two w W T U L R) => h.below)
  have SYM := Lib.hid (fun W T U L R (h : Two w W T U L R) => h.symm)
  have FOK := Lib.hid (fun W T U L R (h : Two w W T U L R) => show Okt L ∧ Okt R by obtain ⟨v, u, a, b, c, d, _⟩ := h; exact ⟨c, d⟩)
  have hx1 : (xs.length : Int) ≤ 9223372036854775807 := by omega
  have hy1 : (ys.length : Int) ≤ 9223372036854775807 := by omega
  generalize hM : Two w = M at *
  clear hM hx hy
  go_enter Try.func8, Try.ntmps8
  go_wp2_with fail
  refine (new_any _).mono ?_
  rintro e w1 ⟨rfl, T1, b1⟩
  have T1 := Lib.hid T1
  have b1 := Lib.hid b1
  go_wp2_with fail
  refine (new_any _).mono ?_
  rintro e w2 ⟨rfl, T2, b2⟩
  have m2 := TN.out w1 w2 b1.out T1.out b2 T2
  clear T1 b1 T2 b2 TN
  generalize w1.heap.size = U at *
  go_wp2_with fail
  refine (AW.out _).mono ?_
  rintro e w3 ⟨rfl, b3⟩
  have m3 := Lib.hid (FNX.out _ _ _ _ _ _ m2 b3)
  clear m2 b3
  go_wp2_with fail
  go_loopw [7] (fun i wq => ∃ (k : Nat) (K : List Sn), i = .int .i64 k ∧ k ≤ xs.length ∧ k ≤ 60 ∧ Hid (M wq w.heap.size U K [])) (fun i _ => xs.length - (intOf i).toNat)
  case atStart => exact ⟨0, [], rfl, Nat.zero_le _, Nat.zero_le _, m3⟩
  case round =>
    obtain ⟨k, K, rfl, hk, hk6, m⟩ := hrel
    by_cases hlt : k < xs.length
    · have hkI : (k : Int) < (xs.length : Int) := by omega
      by_cases h60 : k < 60
      · have h60I : (k : Int) < 60 := by omega
        have h60B : decide ((k : Int) < 60) = true := decide_eq_true h60I
        obtain ⟨g, o, rfl, hg, c0, c1, c2⟩ := X.out k hlt
        have C1 := Lib.hid c1
        have C2 := Lib.hid c2
        have d1 := ((FBL.out _ _ _ _ _ m.out).cell (p := ⟨g, o + k * 3 + 1, none⟩) hg).trans C1.out
        clear c0 c1 c2
        generalize xs[k] = x at *
        obtain ⟨x0, x1, x2⟩ := x
        simp only at C1 C2 d1
        go_wp2_with fail
        refine (FOP.out _ _ _ _ _ m.out x1).mono ?_
        rintro e w5 ⟨rfl, m5⟩
        have f1 := ((FBL.out _ _ _ _ _ m5).cell (p := ⟨g, o + k * 3 + 1, none⟩) hg).trans C1.out
        have f2 := ((FBL.out _ _ _ _ _ m5).cell (p := ⟨g, o + k * 3 + 2, none⟩) hg).trans C2.out
        have m6 := Lib.hid (FNX.out w5 w5.drew _ _ _ _ m5 (Below.refl _ _).drew)
        clear m m5 d1
        go_wp2_with fail
        go_still_tail 11, (by kernel_rfl)
        change wpList _ _ _ _ _ w5.drew
        clear f1 f2
        generalize w5.drew = w6 at *
        go_wp2_with fail
        refine (FTK.out _ _ _ _ _ m6.out x1 x2).mono ?_
        rintro e w7 ⟨rfl, m7⟩
        have m8 := Lib.hid m7
        clear m7 m6
        go_wp2_with fail
        go_roundw
        case rel => exact ⟨k + 1, _, by go_num, by omega, by omega, m8⟩
        case measure => simp [intOf]; omega
      · have h60B : decide ((k : Int) < 60) = false := decide_eq_false (by omega)
        have mK := m
        clear hk hk6
        go_wp2_with fail
        go_loopw [8] (fun i wq => ∃ (k : Nat) (L : List Sn), i = .int .i64 k ∧ k ≤ ys.length ∧ k ≤ 60 ∧ Hid (M wq w.heap.size U K L)) (fun i _ => ys.length - (intOf i).toNat)
        case atStart => exact ⟨0, [], rfl, Nat.zero_le _, Nat.zero_le _, mK⟩
        case round =>
          obtain ⟨k, L, rfl, hk, hk6, m⟩ := hrel
          by_cases hlt : k < ys.length
          · have hkI : (k : Int) < (ys.length : Int) := by omega
            by_cases h60 : k < 60
            · have h60I : (k : Int) < 60 := by omega
              have h60B : decide ((k : Int) < 60) = true := decide_eq_true h60I
              obtain ⟨g, o, rfl, hg, c0, c1, c2⟩ := Y.out k hlt
              have C1 := Lib.hid c1
              have C2 := Lib.hid c2
              have d1 := ((FBL.out _ _ _ _ _ m.out).cell (p := ⟨g, o + k * 3 + 1, none⟩) hg).trans C1.out
              clear c0 c1 c2
              generalize ys[k] = x at *
              obtain ⟨x0, x1, x2⟩ := x
              simp only at C1 C2 d1
              go_wp2_with fail
              refine (FOP.out _ _ _ _ _ (SYM.out _ _ _ _ _ m.out) x1).mono ?_
              rintro e w5 ⟨rfl, m5⟩
              have f1 := ((FBL.out _ _ _ _ _ m5).cell (p := ⟨g, o + k * 3 + 1, none⟩) hg).trans C1.out
              have f2 := ((FBL.out _ _ _ _ _ m5).cell (p := ⟨g, o + k * 3 + 2, none⟩) hg).trans C2.out
              have m6 := Lib.hid (FNX.out w5 w5.drew _ _ _ _ m5 (Below.refl _ _).drew)
              clear m m5 d1
              go_wp2_with fail
              go_still_tail 11, (by kernel_rfl)
              change wpList _ _ _ _ _ w5.drew
              clear f1 f2
              generalize w5.drew = w6 at *
              go_wp2_with fail
              refine (FTK.out _ _ _ _ _ m6.out x1 x2).mono ?_
              rintro e w7 ⟨rfl, m7⟩
              have m8 := Lib.hid (SYM.out _ _ _ _ _ m7)
              clear m7 m6
              go_wp2_with fail
              go_roundw
              case rel => exact ⟨k + 1, _, by go_num, by omega, by omega, m8⟩
              case measure => simp [intOf]; omega
            · have h60B : decide ((k : Int) < 60) = false := decide_eq_false (by omega)
              have ok := FOK.out _ _ _ _ _ m.out
              have HT : Hid (((txtS K).toList == (txtS L).toList) = decide (K = L)) := Lib.hid (by
                have n1 := ok.1.n
                have n2 := ok.2.n
                by_cases e : K = L
                · subst e; simp
                · rw [decide_eq_false e]
                  have : ¬ (txtS K).toList = (txtS L).toList := fun h => e (txt_inj (by omega) (by omega) ok.1.bd ok.2.bd (Bt.bytes_ext (by rw [← Lib.toList_data, ← Lib.toList_data]; exact h)))
                  simpa using this)
              have n1 := ok.1.n
              have n2 := ok.2.n
              clear ok hk hk6
              go_wp2_with fail
              refine (FTX.out _ _ _ _ _ m.out).mono ?_
              rintro e w5 ⟨rfl, m5⟩
              have m5 := Lib.hid (SYM.out _ _ _ _ _ m5)
              clear m
              go_wp2_with fail
              refine (FTX.out _ _ _ _ _ m5.out).mono ?_
              rintro e w6 ⟨rfl, m6⟩
              have m6 := Lib.hid (SYM.out _ _ _ _ _ m6)
              clear m5
              go_wp2_with fail
              refine (FAL.out _ _ _ _ _ m6.out).mono ?_
              rintro e w7 ⟨v7, rfl, s7, b7, m7⟩
              have m7 := Lib.hid m7
              have s7 := Lib.hid s7
              clear m6 b7
              go_wp2_with fail
              refine (refs_any s7.out (by omega)).mono ?_
              rintro e w8 ⟨v8, rfl, o8, b8⟩
              have s8 := Lib.hid o8.ses
              have m8 := Lib.hid (SYM.out _ _ _ _ _ (FNX.out _ _ _ _ _ _ m7.out b8))
              clear m7 s7 o8 b8
              go_wp2_with fail
              refine (FAL.out _ _ _ _ _ m8.out).mono ?_
              rintro e w9 ⟨v9, rfl, s9, b9, m9⟩
              have m9 := Lib.hid m9
              have s9 := Lib.hid s9
              have s8 := Lib.hid (s8.out.next b9)
              clear m8 b9
              go_wp2_with fail
              refine (refs_any s9.out (by omega)).mono ?_
              rintro e wa ⟨va, rfl, oa, ba⟩
              have sa := Lib.hid oa.ses
              have s8 := Lib.hid (s8.out.next ba)
              have ma := Lib.hid (FNX.out _ _ _ _ _ _ m9.out ba)
              clear m9 s9 oa ba
              go_wp2_with fail
              refine (same_any s8.out sa.out (by omega) (by omega)).mono ?_
              rintro e wb ⟨rfl, bb⟩
              have F := Lib.hid ((FBL.out _ _ _ _ _ ma.out).trans (bb.mono (FBL.out _ _ _ _ _ ma.out).size))
              clear ma sa s8 bb
              have ht := HT.out
              generalize decide (K = L) = D at *
              clear HT
              go_wp2_with fail
              go_ret
              exact ⟨by simp, F.out⟩
          · have hkI : ¬ (k : Int) < (ys.length : Int) := by omega
            have hkB : decide ((k : Int) < (ys.length : Int)) = false := decide_eq_false hkI
            have ok := FOK.out _ _ _ _ _ m.out
            have HT : Hid (((txtS K).toList == (txtS L).toList) = decide (K = L)) := Lib.hid (by
              have n1 := ok.1.n
              have n2 := ok.2.n
              by_cases e : K = L
              · subst e; simp
              · rw [decide_eq_false e]
                have : ¬ (txtS K).toList = (txtS L).toList := fun h => e (txt_inj (by omega) (by omega) ok.1.bd ok.2.bd (Bt.bytes_ext (by rw [← Lib.toList_data, ← Lib.toList_data]; exact h)))
                simpa using this)
            have n1 := ok.1.n
            have n2 := ok.2.n
            clear ok hk hk6
            go_wp2_with fail
            refine (FTX.out _ _ _ _ _ m.out).mono ?_
            rintro e w5 ⟨rfl, m5⟩
            have m5 := Lib.hid (SYM.out _ _ _ _ _ m5)
            clear m
            go_wp2_with fail
            refine (FTX.out _ _ _ _ _ m5.out).mono ?_
            rintro e w6 ⟨rfl, m6⟩
            have m6 := Lib.hid (SYM.out _ _ _ _ _ m6)
            clear m5
            go_wp2_with fail
            refine (FAL.out _ _ _ _ _ m6.out).mono ?_
            rintro e w7 ⟨v7, rfl, s7, b7, m7⟩
            have m7 := Lib.hid m7
            have s7 := Lib.hid s7
            clear m6 b7
            go_wp2_with fail
            refine (refs_any s7.out (by omega)).mono ?_
            rintro e w8 ⟨v8, rfl, o8, b8⟩
            have s8 := Lib.hid o8.ses
            have m8 := Lib.hid (SYM.out _ _ _ _ _ (FNX.out _ _ _ _ _ _ m7.out b8))
            clear m7 s7 o8 b8
            go_wp2_with fail
            refine (FAL.out _ _ _ _ _ m8.out).mono ?_
            rintro e w9 ⟨v9, rfl, s9, b9, m9⟩
            have m9 := Lib.hid m9
            have s9 := Lib.hid s9
            have s8 := Lib.hid (s8.out.next b9)
            clear m8 b9
            go_wp2_with fail
            refine (refs_any s9.out (by omega)).mono ?_
            rintro e wa ⟨va, rfl, oa, ba⟩
            have sa := Lib.hid oa.ses
            have s8 := Lib.hid (s8.out.next ba)
            have ma := Lib.hid (FNX.out _ _ _ _ _ _ m9.out ba)
            clear m9 s9 oa ba
            go_wp2_with fail
            refine (same_any s8.out sa.out (by omega) (by omega)).mono ?_
            rintro e wb ⟨rfl, bb⟩
            have F := Lib.hid ((FBL.out _ _ _ _ _ ma.out).trans (bb.mono (FBL.out _ _ _ _ _ ma.out).size))
            clear ma sa s8 bb
            have ht := HT.out
            generalize decide (K = L) = D at *
            clear HT
            go_wp2_with fail
            go_ret
            exact ⟨by simp, F.out⟩
    · have hkI : ¬ (k : Int) < (xs.length : Int) := by omega
      have hkB : decide ((k : Int) < (xs.length : Int)) = false := decide_eq_false hkI
      have mK := m
      clear hk hk6
      go_wp2_with fail
      go_loopw [8] (fun i wq => ∃ (k : Nat) (L : List Sn), i = .int .i64 k ∧ k ≤ ys.length ∧ k ≤ 60 ∧ Hid (M wq w.heap.size U K L)) (fun i _ => ys.length - (intOf i).toNat)
      case atStart => exact ⟨0, [], rfl, Nat.zero_le _, Nat.zero_le _, mK⟩
      case round =>
        obtain ⟨k, L, rfl, hk, hk6, m⟩ := hrel
        by_cases hlt : k < ys.length
        · have hkI : (k : Int) < (ys.length : Int) := by omega
          by_cases h60 : k < 60
          · have h60I : (k : Int) < 60 := by omega
            have h60B : decide ((k : Int) < 60) = true := decide_eq_true h60I
            obtain ⟨g, o, rfl, hg, c0, c1, c2⟩ := Y.out k hlt
            have C1 := Lib.hid c1
            have C2 := Lib.hid c2
            have d1 := ((FBL.out _ _ _ _ _ m.out).cell (p := ⟨g, o + k * 3 + 1, none⟩) hg).trans C1.out
            clear c0 c1 c2
            generalize ys[k] = x at *
            obtain ⟨x0, x1, x2⟩ := x
            simp only at C1 C2 d1
            go_wp2_with fail
            refine (FOP.out _ _ _ _ _ (SYM.out _ _ _ _ _ m.out) x1).mono ?_
            rintro e w5 ⟨rfl, m5⟩
            have f1 := ((FBL.out _ _ _ _ _ m5).cell (p := ⟨g, o + k * 3 + 1, none⟩) hg).trans C1.out
            have f2 := ((FBL.out _ _ _ _ _ m5).cell (p := ⟨g, o + k * 3 + 2, none⟩) hg).trans C2.out
            have m6 := Lib.hid (FNX.out w5 w5.drew _ _ _ _ m5 (Below.refl _ _).drew)
            clear m m5 d1
            go_wp2_with fail
            go_still_tail 11, (by kernel_rfl)
            change wpList _ _ _ _ _ w5.drew
            clear f1 f2
            generalize w5.drew = w6 at *
            go_wp2_with fail
            refine (FTK.out _ _ _ _ _ m6.out x1 x2).mono ?_
            rintro e w7 ⟨rfl, m7⟩
            have m8 := Lib.hid (SYM.out _ _ _ _ _ m7)
            clear m7 m6
            go_wp2_with fail
            go_roundw
            case rel => exact ⟨k + 1, _, by go_num, by omega, by omega, m8⟩
            case measure => simp [intOf]; omega
          · have h60B : decide ((k : Int) < 60) = false := decide_eq_false (by omega)
            have ok := FOK.out _ _ _ _ _ m.out
            have HT : Hid (((txtS K).toList == (txtS L).toList) = decide (K = L)) := Lib.hid (by
              have n1 := ok.1.n
              have n2 := ok.2.n
              by_cases e : K = L
              · subst e; simp
              · rw [decide_eq_false e]
                have : ¬ (txtS K).toList = (txtS L).toList := fun h => e (txt_inj (by omega) (by omega) ok.1.bd ok.2.bd (Bt.bytes_ext (by rw [← Lib.toList_data, ← Lib.toList_data]; exact h)))
                simpa using this)
            have n1 := ok.1.n
            have n2 := ok.2.n
            clear ok hk hk6
            go_wp2_with fail
            refine (FTX.out _ _ _ _ _ m.out).mono ?_
            rintro e w5 ⟨rfl, m5⟩
            have m5 := Lib.hid (SYM.out _ _ _ _ _ m5)
            clear m
            go_wp2_with fail
            refine (FTX.out _ _ _ _ _ m5.out).mono ?_
            rintro e w6 ⟨rfl, m6⟩
            have m6 := Lib.hid (SYM.out _ _ _ _ _ m6)
            clear m5
            go_wp2_with fail
            refine (FAL.out _ _ _ _ _ m6.out).mono ?_
            rintro e w7 ⟨v7, rfl, s7, b7, m7⟩
            have m7 := Lib.hid m7
            have s7 := Lib.hid s7
            clear m6 b7
            go_wp2_with fail
            refine (refs_any s7.out (by omega)).mono ?_
            rintro e w8 ⟨v8, rfl, o8, b8⟩
            have s8 := Lib.hid o8.ses
            have m8 := Lib.hid (SYM.out _ _ _ _ _ (FNX.out _ _ _ _ _ _ m7.out b8))
            clear m7 s7 o8 b8
            go_wp2_with fail
            refine (FAL.out _ _ _ _ _ m8.out).mono ?_
            rintro e w9 ⟨v9, rfl, s9, b9, m9⟩
            have m9 := Lib.hid m9
            have s9 := Lib.hid s9
            have s8 := Lib.hid (s8.out.next b9)
            clear m8 b9
            go_wp2_with fail
            refine (refs_any s9.out (by omega)).mono ?_
            rintro e wa ⟨va, rfl, oa, ba⟩
            have sa := Lib.hid oa.ses
            have s8 := Lib.hid (s8.out.next ba)
            have ma := Lib.hid (FNX.out _ _ _ _ _ _ m9.out ba)
            clear m9 s9 oa ba
            go_wp2_with fail
            refine (same_any s8.out sa.out (by omega) (by omega)).mono ?_
            rintro e wb ⟨rfl, bb⟩
            have F := Lib.hid ((FBL.out _ _ _ _ _ ma.out).trans (bb.mono (FBL.out _ _ _ _ _ ma.out).size))
            clear ma sa s8 bb
            have ht := HT.out
            generalize decide (K = L) = D at *
            clear HT
            go_wp2_with fail
            go_ret
            exact ⟨by simp, F.out⟩
        · have hkI : ¬ (k : Int) < (ys.length : Int) := by omega
          have hkB : decide ((k : Int) < (ys.length : Int)) = false := decide_eq_false hkI
          have ok := FOK.out _ _ _ _ _ m.out
          have HT : Hid (((txtS K).toList == (txtS L).toList) = decide (K = L)) := Lib.hid (by
            have n1 := ok.1.n
            have n2 := ok.2.n
            by_cases e : K = L
            · subst e; simp
            · rw [decide_eq_false e]
              have : ¬ (txtS K).toList = (txtS L).toList := fun h => e (txt_inj (by omega) (by omega) ok.1.bd ok.2.bd (Bt.bytes_ext (by rw [← Lib.toList_data, ← Lib.toList_data]; exact h)))
              simpa using this)
          have n1 := ok.1.n
          have n2 := ok.2.n
          clear ok hk hk6
          go_wp2_with fail
          refine (FTX.out _ _ _ _ _ m.out).mono ?_
          rintro e w5 ⟨rfl, m5⟩
          have m5 := Lib.hid (SYM.out _ _ _ _ _ m5)
          clear m
          go_wp2_with fail
          refine (FTX.out _ _ _ _ _ m5.out).mono ?_
          rintro e w6 ⟨rfl, m6⟩
          have m6 := Lib.hid (SYM.out _ _ _ _ _ m6)
          clear m5
          go_wp2_with fail
          refine (FAL.out _ _ _ _ _ m6.out).mono ?_
          rintro e w7 ⟨v7, rfl, s7, b7, m7⟩
          have m7 := Lib.hid m7
          have s7 := Lib.hid s7
          clear m6 b7
          go_wp2_with fail
          refine (refs_any s7.out (by omega)).mono ?_
          rintro e w8 ⟨v8, rfl, o8, b8⟩
          have s8 := Lib.hid o8.ses
          have m8 := Lib.hid (SYM.out _ _ _ _ _ (FNX.out _ _ _ _ _ _ m7.out b8))
          clear m7 s7 o8 b8
          go_wp2_with fail
          refine (FAL.out _ _ _ _ _ m8.out).mono ?_
          rintro e w9 ⟨v9, rfl, s9, b9, m9⟩
          have m9 := Lib.hid m9
          have s9 := Lib.hid s9
          have s8 := Lib.hid (s8.out.next b9)
          clear m8 b9
          go_wp2_with fail
          refine (refs_any s9.out (by omega)).mono ?_
          rintro e wa ⟨va, rfl, oa, ba⟩
          have sa := Lib.hid oa.ses
          have s8 := Lib.hid (s8.out.next ba)
          have ma := Lib.hid (FNX.out _ _ _ _ _ _ m9.out ba)
          clear m9 s9 oa ba
          go_wp2_with fail
          refine (same_any s8.out sa.out (by omega) (by omega)).mono ?_
          rintro e wb ⟨rfl, bb⟩
          have F := Lib.hid ((FBL.out _ _ _ _ _ ma.out).trans (bb.mono (FBL.out _ _ _ _ _ ma.out).size))
          clear ma sa s8 bb
          have ht := HT.out
          generalize decide (K = L) = D at *
          clear HT
          go_wp2_with fail
          go_ret
          exact ⟨by simp, F.out⟩
end Go.Proofs.Ytkaocpfkigdpoaa
