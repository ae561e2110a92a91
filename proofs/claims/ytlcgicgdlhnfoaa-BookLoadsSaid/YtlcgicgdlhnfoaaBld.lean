/-
  The book: Load 18.
-/
import Derived.Test.YtlcgicgdlhnfoaaBlp
namespace Go.Proofs.Ytlcgicgdlhnfoaa
open Go.RowKit
def pLd (base : Int) : Nat → Tp → Option (List (List Int) × Tp)
  | 0, t => some ([], t)
  | k + 1, t => (pLd base k t).bind fun r => if ptE base r.1 (pMt r.2).1 = 0 then some (r.1 ++ [(pMt r.2).1], (pMt r.2).2) else none
/-- which book a text says -/
def pLoad (s : ByteArray) : Option (Int × List (List Int)) :=
  if 549755813888 < (pn (s, 0)).1 ∨ 64 < (pn (pn (s, 0)).2).1 then none
  else (pLd ((pn (s, 0)).1 : Int) (pn (pn (s, 0)).2).1 (pn (pn (s, 0)).2).2).bind fun r => if Bt.endE r.2.1 r.2.2 = 0 then some (((pn (s, 0)).1 : Int), r.1) else none
theorem pLd_len {base : Int} : ∀ {k : Nat} {t : Tp} {r : List (List Int) × Tp}, pLd base k t = some r → r.1.length = k
  | 0, t, r, h => by unfold pLd at h; cases h; rfl
  | k + 1, t, r, h => by
    unfold pLd at h
    obtain ⟨r0, h0, h1⟩ := Option.bind_eq_some_iff.1 h
    have := pLd_len h0
    by_cases hE : ptE base r0.1 (pMt r0.2).1 = 0
    · rw [if_pos hE] at h1; cases h1
      simp [this]
    · rw [if_neg hE] at h1; cases h1
theorem pLd_none {base : Int} {k n : Nat} {t : Tp} (h : pLd base k t = none) (hn : k ≤ n) : pLd base n t = none := by
  induction hn with
  | refl => exact h
  | step _ ih => unfold pLd; rw [ih]; rfl
theorem pLd_le {base : Int} : ∀ {k : Nat} {t : Tp} {r : List (List Int) × Tp}, pLd base k t = some r → r.2.1.size ≤ t.1.size
  | 0, t, r, h => by unfold pLd at h; cases h; exact Nat.le_refl _
  | k + 1, t, r, h => by
    unfold pLd at h
    obtain ⟨r0, h0, h1⟩ := Option.bind_eq_some_iff.1 h
    have := pLd_le h0
    by_cases hE : ptE base r0.1 (pMt r0.2).1 = 0
    · rw [if_pos hE] at h1; cases h1
      exact Nat.le_trans (pMt_le _) this
    · rw [if_neg hE] at h1; cases h1
theorem pMt_len (t : Tp) : (pMt t).1.length ≤ 17 := by unfold pMt; rw [pNs_len]; exact Nat.min_le_right _ _
/-- loading: between two matches -/
structure LdS (w wr : World) (b tb : Nat) (base : Int) (LL : List (List Int)) (t : Tp) : Prop where
  bk : ∃ Bk, BookAt wr Bk tb base LL ∧ ∀ q, Bk q → w.heap.size ≤ q ∧ q ≠ b
  ok : BOk base LL
  sh : Shr LL
  t : Bt.TapeAt wr b t.1 t.2
  f : Below w.heap.size w wr
theorem LdS.mine {w wr : World} {b tb : Nat} {base : Int} {LL : List (List Int)} {t : Tp} (h : LdS w wr b tb base LL t) : Mine w w.heap.size tb base LL wr := by
  obtain ⟨Bk, hb, hq⟩ := h.bk
  exact ⟨Bk, hb, h.ok, h.sh, fun q hh => (hq q hh).1, h.f, h.f.size⟩
/-- a match is read and put -/
theorem LdS.put {w wr w2 : World} {b tb : Nat} {base : Int} {LL : List (List Int)} {t : Tp} {u : Value} (h : LdS w wr b tb base LL t) (hb : w.heap.size ≤ b)
    (ho : OwnN w2 wr.heap.size u (pMt t).1) (ht : Bt.TapeAt w2 b (pMt t).2.1 (pMt t).2.2) (hf : Fr wr w2 (fun q => q = b)) : ∃ a c, u = .slice a (pMt t).1.length c ∧
    Calls Try.prog 11 #[.pointer (some ⟨tb, 0, none⟩), .agg #[.slice a (pMt t).1.length c]] w2 fun e w' => e = .returned (.int .i64 (ptE base LL (pMt t).1)) ∧ Below w.heap.size w w' ∧ (ptE base LL (pMt t).1 = 0 → LL.length < 64 → LdS w w' b tb base (LL ++ [(pMt t).1]) (pMt t).2) := by
  obtain ⟨Bk, hbk, hq⟩ := h.bk
  obtain ⟨a, c, rfl, nn⟩ := ho.nums
  have hb2 : BookAt w2 Bk tb base LL := hbk.fr hf (fun q hh e => (hq q hh).2 e)
  have f2 : Below w.heap.size w w2 := h.f.trans (hf.below (fun q e => by omega) h.f.size)
  refine ⟨a, c, rfl, (put_any c hb2 h.ok nn (by have := pMt_len t; omega)).mono ?_⟩
  rintro e w' ⟨rfl, Bk', hb', f', m1, m2⟩
  have f3 : Below w.heap.size w w' := f2.trans (f'.below (fun q hh => (hq q hh).1) f2.size)
  refine ⟨rfl, f3, fun hE hl => ?_⟩
  have e1 : ptS base LL (pMt t).1 = (base, LL ++ [(pMt t).1]) := by unfold ptS; rw [if_pos hE, if_neg (by omega)]
  have ok2 := bok_pt h.ok (pMt t).1
  have sh2 := shr_pt (base := base) h.sh (pMt t).1
  rw [e1] at hb' ok2 sh2
  have hbl := ht.lt
  exact ⟨⟨Bk', hb', fun q hh => by
    rcases m2 q hh with h1 | h1
    · exact hq q h1
    · exact ⟨Nat.le_trans f2.size h1, by omega⟩⟩, ok2, sh2, tape_fr ht f' (fun hh => (hq b hh).2 rfl), f3⟩
def Ldd (w : World) (s : ByteArray) (e : Ending) (w' : World) : Prop :=
  (pLoad s = none ∧ e = .returned (.tuple #[.pointer none, .int .i64 3]) ∧ Below w.heap.size w w') ∨
    ∃ base LL t, pLoad s = some (base, LL) ∧ e = .returned (.tuple #[.pointer (some ⟨t, 0, none⟩), .int .i64 0]) ∧ Mine w w.heap.size t base LL w'
set_option maxHeartbeats 8000000 in
set_option maxRecDepth 100000 in
theorem load_any {s : ByteArray} (hs : s.size ≤ 281474976710656) (w : World) : Calls Try.prog 18 #[.string s] w (Ldd w s) := by
  have AT := Lib.hid (Bt.at_any s w hs)
  obtain ⟨n0, t1, hn0⟩ : ∃ n0 t1, pn (s, 0) = (n0, t1) := ⟨_, _, rfl⟩
  obtain ⟨n1, t2, hn1⟩ : ∃ n1 t2, pn t1 = (n1, t2) := ⟨_, _, rfl⟩
  have l0 : n0 < 18446744073709551616 := by have := pn_lt (s, 0); rw [hn0] at this; exact this
  have l1 : n1 < 18446744073709551616 := by have := pn_lt t1; rw [hn1] at this; exact this
  have s1 : t1.1.size ≤ 281474976710656 := by have := pn_le (s, 0); rw [hn0] at this; exact Nat.le_trans this hs
  have s2 : t2.1.size ≤ 281474976710656 := by have := pn_le t1; rw [hn1] at this; exact Nat.le_trans this s1
  have PL : pLoad s = if 549755813888 < n0 ∨ 64 < n1 then none else (pLd (n0 : Int) n1 t2).bind fun r => if Bt.endE r.2.1 r.2.2 = 0 then some ((n0 : Int), r.1) else none := by
    unfold pLoad
    rw [hn0]
    simp only [hn1]
  have NU0 := Lib.hid (fun V b (h : Bt.TapeAt V b s 0) => tape_num (t := (s, 0)) h hs)
  have NU1 := Lib.hid (fun V b (h : Bt.TapeAt V b t1.1 t1.2) => tape_num (t := t1) h s1)
  rw [hn0] at NU0
  rw [hn1] at NU1
  simp only at NU0 NU1
  clear hn0 hn1 s1
  have BAD : Hid ((549755813888 < n0 ∨ 64 < n1) → ∀ w', Below w.heap.size w w' → Ldd w s (.returned (.tuple #[.pointer none, .int .i64 3])) w') := Lib.hid fun h w' b => .inl ⟨by rw [PL, if_pos h], rfl, b⟩
  have BADL : Hid (∀ j LL t', ¬ (549755813888 < n0 ∨ 64 < n1) → j < n1 → pLd (n0 : Int) j t2 = some (LL, t') → ptE (n0 : Int) LL (pMt t').1 ≠ 0 → ∀ w', Below w.heap.size w w' → Ldd w s (.returned (.tuple #[.pointer none, .int .i64 3])) w') := Lib.hid fun j LL t' h hj hp hE w' b => by
    have h1 : pLd (n0 : Int) (j + 1) t2 = none := by
      show (pLd (n0 : Int) j t2).bind _ = none
      rw [hp]
      show (if ptE (n0 : Int) LL (pMt t').1 = 0 then _ else none) = none
      rw [if_neg hE]
    exact .inl ⟨by rw [PL, if_neg h, pLd_none h1 hj]; rfl, rfl, b⟩
  have BADE : Hid (∀ LL t', ¬ (549755813888 < n0 ∨ 64 < n1) → pLd (n0 : Int) n1 t2 = some (LL, t') → Bt.endE t'.1 t'.2 ≠ 0 → ∀ w', Below w.heap.size w w' → Ldd w s (.returned (.tuple #[.pointer none, .int .i64 3])) w') := Lib.hid fun LL t' h hp hE w' b => by
    refine .inl ⟨?_, rfl, b⟩
    rw [PL, if_neg h, hp]
    show (if Bt.endE t'.1 t'.2 = 0 then _ else none) = none
    rw [if_neg hE]
  have GOOD : Hid (∀ LL t' b tb, ¬ (549755813888 < n0 ∨ 64 < n1) → pLd (n0 : Int) n1 t2 = some (LL, t') → Bt.endE t'.1 t'.2 = 0 → ∀ w', LdS w w' b tb (n0 : Int) LL t' → Ldd w s (.returned (.tuple #[.pointer (some ⟨tb, 0, none⟩), .int .i64 0])) w') := Lib.hid fun LL t' b tb h hp hE w' hS => by
    refine .inr ⟨(n0 : Int), LL, tb, ?_, rfl, hS.mine⟩
    rw [PL, if_neg h, hp]
    show (if Bt.endE t'.1 t'.2 = 0 then some ((n0 : Int), LL) else none) = _
    rw [if_pos hE]
  have TK := Lib.hid (fun V b (k : Nat) LL t' (hp : pLd (n0 : Int) k t2 = some (LL, t')) (h : Bt.TapeAt V b t'.1 t'.2) => take_any (t := t') h (Nat.le_trans (pLd_le hp) s2))
  have P0 : Hid (pLd (n0 : Int) 0 t2 = some ([], t2)) := Lib.hid rfl
  have PN : Hid (∀ j LL t', pLd (n0 : Int) j t2 = some (LL, t') → ptE (n0 : Int) LL (pMt t').1 = 0 → pLd (n0 : Int) (j + 1) t2 = some (LL ++ [(pMt t').1], (pMt t').2)) := Lib.hid fun j LL t' hp hE => by
    show (pLd (n0 : Int) j t2).bind _ = _
    rw [hp]
    show (if ptE (n0 : Int) LL (pMt t').1 = 0 then some (LL ++ [(pMt t').1], (pMt t').2) else none) = _
    rw [if_pos hE]
  clear PL s2
  generalize Ldd w s = Q at *
  go_enter Try.func18, Try.ntmps18
  go_wp2_with fail
  refine AT.out.mono ?_
  rintro e w1 ⟨b, rfl, hb, tp, b1⟩
  have TP1 := Lib.hid tp
  have B1 := Lib.hid b1
  clear tp b1 AT
  go_wp2_with fail
  refine (NU0.out w1 b TP1.out).mono ?_
  rintro e w2 ⟨rfl, f2, tp2⟩
  have TP2 := Lib.hid tp2
  have B2 : Hid (Below w.heap.size w w2) := Lib.hid (B1.out.trans (f2.below (fun q e => by omega) B1.out.size))
  clear tp2 f2 TP1 B1 NU0
  go_wp2_with fail
  refine (NU1.out w2 b TP2.out).mono ?_
  rintro e w3 ⟨rfl, f3, tp3⟩
  have TP3 := Lib.hid tp3
  have B3 : Hid (Below w.heap.size w w3) := Lib.hid (B2.out.trans (f3.below (fun q e => by omega) B2.out.size))
  clear tp3 f3 TP2 B2 NU1
  by_cases g0 : 549755813888 < n0
  · have F := BAD.out (.inl g0) _ B3.out
    have gI : (549755813888 : Int) < (n0 : Int) := by omega
    have gB := decide_eq_true gI
    clear BAD BADL BADE GOOD TK P0 PN
    go_wp2_with fail
    exact F
  have gI : ¬ (549755813888 : Int) < (n0 : Int) := by omega
  have gB := decide_eq_false gI
  by_cases g1 : 64 < n1
  · have F := BAD.out (.inr g1) _ B3.out
    have hI : (64 : Int) < (n1 : Int) := by omega
    have hB := decide_eq_true hI
    clear BAD BADL BADE GOOD TK P0 PN
    go_wp2_with fail
    exact F
  have hI : ¬ (64 : Int) < (n1 : Int) := by omega
  have hB := decide_eq_false hI
  have g01 : ¬ (549755813888 < n0 ∨ 64 < n1) := by omega
  have hwr : IntKind.i64.wrap (n0 : Int) = (n0 : Int) := by rw [IntKind.wrap_i64]; omega
  obtain ⟨W4, hW4⟩ : ∃ W4, W4 = w3.alloc (.cells #[.int .i64 (n0 : Int), .slice none 0 0] 59) := ⟨_, rfl⟩
  have b4 : Below w3.heap.size w3 W4 := by rw [hW4]; exact (Below.refl _ w3).alloc (Nat.le_refl _) _
  have k4 : Blk W4 w3.heap.size 59 #[.int .i64 (n0 : Int), .slice none 0 0] := by rw [hW4]; exact Blk.new _ _ _
  have S0 : Hid (LdS w W4 b w3.heap.size (n0 : Int) [] t2) := Lib.hid ⟨⟨fun q => q = w3.heap.size, ⟨_, [], k4, .inl ⟨rfl, rfl⟩, Els.nil _ _, rfl, fun q hq => by simp [Value.ownBlock] at hq, fun q hq => by rw [hq]; exact k4.lt⟩, fun q hq => ⟨by rw [hq]; exact B3.out.size, by rw [hq]; have := TP3.out.lt; omega⟩⟩, ⟨by omega, by simp; omega, by simp⟩, fun _ h => by simp at h, TP3.out.next b4, B3.out.trans (b4.mono B3.out.size)⟩
  have HW4 := Lib.hid hW4
  clear hW4 b4 k4 BAD TP3 B3
  go_wp2_with (rw [← HW4.out])
  generalize w3.heap.size = tb at *
  go_loopw [25] (fun i wr => ∃ (j : Nat) (LL : List (List Int)) (t' : Tp), i = .int .u64 j ∧ j ≤ n1 ∧ Hid (pLd (n0 : Int) j t2 = some (LL, t')) ∧ Hid (LdS w wr b tb (n0 : Int) LL t')) (fun i _ => n1 - (intOf i).toNat)
  case atStart => exact ⟨0, [], t2, rfl, Nat.zero_le _, P0, S0⟩
  case round =>
    obtain ⟨j, LL, t', rfl, hj, hP, hS⟩ := hrel
    clear S0 P0 HW4
    by_cases hjn : j < n1
    · have jI : (j : Int) < (n1 : Int) := by omega
      have jB := decide_eq_true jI
      have HT := Lib.hid (TK.out wr b j LL t' hP.out hS.out.t)
      have hll : LL.length < 64 := by have := pLd_len hP.out; simp only at this; omega
      clear TK BADE GOOD
      go_wp2_with fail
      refine HT.out.mono ?_
      rintro e w5 ⟨u, rfl, ho, ht5, f5⟩
      obtain ⟨a, c, rfl, PC⟩ := hS.out.put hb ho ht5 f5
      have HPC := Lib.hid PC
      clear PC ho ht5 f5 HT hS
      have PN1 := Lib.hid (PN.out j LL t' hP.out)
      have BL1 := Lib.hid (BADL.out j LL t' g01 hjn hP.out)
      clear PN BADL hP
      generalize (pMt t').1 = xs at *
      generalize (pMt t').2 = t5 at *
      by_cases hE : ptE (n0 : Int) LL xs = 0
      · rw [hE] at HPC
        have PN2 := Lib.hid (PN1.out hE)
        clear BL1 PN1
        go_wp2_with fail
        refine HPC.out.mono ?_
        rintro e w6 ⟨rfl, -, hs6⟩
        have S6 := Lib.hid (hs6 trivial hll)
        clear hs6 HPC hE
        go_wp2_with fail
        go_roundw
        case rel => exact ⟨j + 1, _, _, by go_num, by omega, PN2, S6⟩
        case measure => simp [intOf]; omega
      · have BL2 := Lib.hid (BL1.out hE)
        clear PN1 BL1
        generalize ptE (n0 : Int) LL xs = pe at *
        have hEB := decide_eq_false hE
        go_wp2_with fail
        refine HPC.out.mono ?_
        rintro e w6 ⟨rfl, b6, -⟩
        have F := BL2.out _ b6
        clear HPC b6 BL2
        go_wp2_with fail
        exact F
    · obtain rfl : j = n1 := by omega
      have jI : ¬ (j : Int) < (j : Int) := by omega
      have HE := Lib.hid (Bt.end_any hS.out.t)
      have BE1 := Lib.hid (BADE.out LL t' g01 hP.out)
      have GD1 := Lib.hid (GOOD.out LL t' b tb g01 hP.out)
      clear TK BADE GOOD PN BADL hP
      have Bw := Lib.hid hS.out.f
      by_cases hE : Bt.endE t'.1 t'.2 = 0
      · have F := GD1.out hE wr hS.out
        rw [hE] at HE
        clear BE1 GD1 hS hE
        go_wp2_with fail
        refine HE.out.mono ?_
        rintro e w6 ⟨rfl, rfl⟩
        go_wp2_with fail
        exact F
      · have F := BE1.out hE wr Bw.out
        clear BE1 GD1 hS
        generalize Bt.endE t'.1 t'.2 = pe at *
        have hEB := decide_eq_false hE
        go_wp2_with fail
        refine HE.out.mono ?_
        rintro e w6 ⟨rfl, rfl⟩
        go_wp2_with fail
        exact F
end Go.Proofs.Ytlcgicgdlhnfoaa
