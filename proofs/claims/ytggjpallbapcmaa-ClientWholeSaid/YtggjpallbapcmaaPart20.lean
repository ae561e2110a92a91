/-
  WHAT THE ROWS REST ON, part 20: Bld Btp BWas Blb.
-/
import Derived.Test.YtggjpallbapcmaaPart19
/-
  The book: Load 18.
-/
namespace Go.Proofs.Ytggjpallbapcmaa.Bk
open Go.RowKit
def pLd (base : Int) : Nat → Tp → Option (List (List Int) × Tp)
  | 0, t => some ([], t)
  | k + 1, t => (pLd base k t).bind fun r => if ptE base r.1 (pMt r.2).1 = 0 then some (r.1 ++ [(pMt r.2).1], (pMt r.2).2) else none
/-- which book a text says -/
def pLoad (s : ByteArray) : Option (Int × List (List Int)) :=
  if 549755813888 < (pn (s, 0)).1 ∨ 64 < (pn (pn (s, 0)).2).1 then none
  else (pLd ((pn (s, 0)).1 : Int) (pn (pn (s, 0)).2).1 (pn (pn (s, 0)).2).2).bind fun r => if Bt.endE r.2.1 r.2.2 = 0 then some (((pn (s, 0)).1 : Int), r.1) else none
theorem pLd_len {base : Int} : ∀ {k : Nat} {t : Tp} {r : List (List Int) × Tp}, pLd base k t = some r → r.1.length = k
  | 0, t, r, h => by unfold pLd at h; cases h; rfl
  | k + 1, t, r, h => by
    unfold pLd at h
    obtain ⟨r0, h0, h1⟩ := Option.bind_eq_some_iff.1 h
    have := pLd_len h0
    by_cases hE : ptE base r0.1 (pMt r0.2).1 = 0
    · rw [if_pos hE] at h1; cases h1
      simp [this]
    · rw [if_neg hE] at h1; cases h1
theorem pLd_none {base : Int} {k n : Nat} {t : Tp} (h : pLd base k t = none) (hn : k ≤ n) : pLd base n t = none := by
  induction hn with
  | refl => exact h
  | step _ ih => unfold pLd; rw [ih]; rfl
theorem pLd_le {base : Int} : ∀ {k : Nat} {t : Tp} {r : List (List Int) × Tp}, pLd base k t = some r → r.2.1.size ≤ t.1.size
  | 0, t, r, h => by unfold pLd at h; cases h; exact Nat.le_refl _
  | k + 1, t, r, h => by
    unfold pLd at h
    obtain ⟨r0, h0, h1⟩ := Option.bind_eq_some_iff.1 h
    have := pLd_le h0
    by_cases hE : ptE base r0.1 (pMt r0.2).1 = 0
    · rw [if_pos hE] at h1; cases h1
      exact Nat.le_trans (pMt_le _) this
    · rw [if_neg hE] at h1; cases h1
theorem pMt_len (t : Tp) : (pMt t).1.length ≤ 17 := by unfold pMt; rw [pNs_len]; exact Nat.min_le_right _ _
/-- loading: between two matches -/
structure LdS (w wr : World) (b tb : Nat) (base : Int) (LL : List (List Int)) (t : Tp) : Prop where
  bk : ∃ Bk, BookAt wr Bk tb base LL ∧ ∀ q, Bk q → w.heap.size ≤ q ∧ q ≠ b
  ok : BOk base LL
  sh : Shr LL
  t : Bt.TapeAt wr b t.1 t.2
  f : Below w.heap.size w wr
theorem LdS.mine {w wr : World} {b tb : Nat} {base : Int} {LL : List (List Int)} {t : Tp} (h : LdS w wr b tb base LL t) : Mine w w.heap.size tb base LL wr := by
  obtain ⟨Bk, hb, hq⟩ := h.bk
  exact ⟨Bk, hb, h.ok, h.sh, fun q hh => (hq q hh).1, h.f, h.f.size⟩
/-- a match is read and put -/
theorem LdS.put {w wr w2 : World} {b tb : Nat} {base : Int} {LL : List (List Int)} {t : Tp} {u : Value} (h : LdS w wr b tb base LL t) (hb : w.heap.size ≤ b)
    (ho : OwnN w2 wr.heap.size u (pMt t).1) (ht : Bt.TapeAt w2 b (pMt t).2.1 (pMt t).2.2) (hf : Fr wr w2 (fun q => q = b)) : ∃ a c, u = .slice a (pMt t).1.length c ∧
    Calls Try.prog 31 #[.pointer (some ⟨tb, 0, none⟩), .agg #[.slice a (pMt t).1.length c]] w2 fun e w' => e = .returned (.int .i64 (ptE base LL (pMt t).1)) ∧ Below w.heap.size w w' ∧ (ptE base LL (pMt t).1 = 0 → LL.length < 64 → LdS w w' b tb base (LL ++ [(pMt t).1]) (pMt t).2) := by
  obtain ⟨Bk, hbk, hq⟩ := h.bk
  obtain ⟨a, c, rfl, nn⟩ := ho.nums
  have hb2 : BookAt w2 Bk tb base LL := hbk.fr hf (fun q hh e => (hq q hh).2 e)
  have f2 : Below w.heap.size w w2 := h.f.trans (hf.below (fun q e => by omega) h.f.size)
  refine ⟨a, c, rfl, (put_any c hb2 h.ok nn (by have := pMt_len t; omega)).mono ?_⟩
  rintro e w' ⟨rfl, Bk', hb', f', m1, m2⟩
  have f3 : Below w.heap.size w w' := f2.trans (f'.below (fun q hh => (hq q hh).1) f2.size)
  refine ⟨rfl, f3, fun hE hl => ?_⟩
  have e1 : ptS base LL (pMt t).1 = (base, LL ++ [(pMt t).1]) := by unfold ptS; rw [if_pos hE, if_neg (by omega)]
  have ok2 := bok_pt h.ok (pMt t).1
  have sh2 := shr_pt (base := base) h.sh (pMt t).1
  rw [e1] at hb' ok2 sh2
  have hbl := ht.lt
  exact ⟨⟨Bk', hb', fun q hh => by
    rcases m2 q hh with h1 | h1
    · exact hq q h1
    · exact ⟨Nat.le_trans f2.size h1, by omega⟩⟩, ok2, sh2, tape_fr ht f' (fun hh => (hq b hh).2 rfl), f3⟩
def Ldd (w : World) (s : ByteArray) (e : Ending) (w' : World) : Prop :=
  (pLoad s = none ∧ e = .returned (.tuple #[.pointer none, .int .i64 3]) ∧ Below w.heap.size w w') ∨
    ∃ base LL t, pLoad s = some (base, LL) ∧ e = .returned (.tuple #[.pointer (some ⟨t, 0, none⟩), .int .i64 0]) ∧ Mine w w.heap.size t base LL w'
set_option maxHeartbeats 8000000 in
set_option maxRecDepth 100000 in
theorem load_any {s : ByteArray} (hs : s.size ≤ 281474976710656) (w : World) : Calls Try.prog 30 #[.string s] w (Ldd w s) := by
  have AT := Lib.hid (Bt.at_any s w hs)
  obtain ⟨n0, t1, hn0⟩ : ∃ n0 t1, pn (s, 0) = (n0, t1) := ⟨_, _, rfl⟩
  obtain ⟨n1, t2, hn1⟩ : ∃ n1 t2, pn t1 = (n1, t2) := ⟨_, _, rfl⟩
  have l0 : n0 < 18446744073709551616 := by have := pn_lt (s, 0); rw [hn0] at this; exact this
  have l1 : n1 < 18446744073709551616 := by have := pn_lt t1; rw [hn1] at this; exact this
  have s1 : t1.1.size ≤ 281474976710656 := by have := pn_le (s, 0); rw [hn0] at this; exact Nat.le_trans this hs
  have s2 : t2.1.size ≤ 281474976710656 := by have := pn_le t1; rw [hn1] at this; exact Nat.le_trans this s1
  have PL : pLoad s = if 549755813888 < n0 ∨ 64 < n1 then none else (pLd (n0 : Int) n1 t2).bind fun r => if Bt.endE r.2.1 r.2.2 = 0 then some ((n0 : Int), r.1) else none := by
    unfold pLoad
    rw [hn0]
    simp only [hn1]
  have NU0 := Lib.hid (fun V b (h : Bt.TapeAt V b s 0) => tape_num (t := (s, 0)) h hs)
  have NU1 := Lib.hid (fun V b (h : Bt.TapeAt V b t1.1 t1.2) => tape_num (t := t1) h s1)
  rw [hn0] at NU0
  rw [hn1] at NU1
  simp only at NU0 NU1
  clear hn0 hn1 s1
  have BAD : Hid ((549755813888 < n0 ∨ 64 < n1) → ∀ w', Below w.heap.size w w' → Ldd w s (.returned (.tuple #[.pointer none, .int .i64 3])) w') := Lib.hid fun h w' b => .inl ⟨by rw [PL, if_pos h], rfl, b⟩
  have BADL : Hid (∀ j LL t', ¬ (549755813888 < n0 ∨ 64 < n1) → j < n1 → pLd (n0 : Int) j t2 = some (LL, t') → ptE (n0 : Int) LL (pMt t').1 ≠ 0 → ∀ w', Below w.heap.size w w' → Ldd w s (.returned (.tuple #[.pointer none, .int .i64 3])) w') := Lib.hid fun j LL t' h hj hp hE w' b => by
    have h1 : pLd (n0 : Int) (j + 1) t2 = none := by
      show (pLd (n0 : Int) j t2).bind _ = none
      rw [hp]
      show (if ptE (n0 : Int) LL (pMt t').1 = 0 then _ else none) = none
      rw [if_neg hE]
    exact .inl ⟨by rw [PL, if_neg h, pLd_none h1 hj]; rfl, rfl, b⟩
  have BADE : Hid (∀ LL t', ¬ (549755813888 < n0 ∨ 64 < n1) → pLd (n0 : Int) n1 t2 = some (LL, t') → Bt.endE t'.1 t'.2 ≠ 0 → ∀ w', Below w.heap.size w w' → Ldd w s (.returned (.tuple #[.pointer none, .int .i64 3])) w') := Lib.hid fun LL t' h hp hE w' b => by
    refine .inl ⟨?_, rfl, b⟩
    rw [PL, if_neg h, hp]
    show (if Bt.endE t'.1 t'.2 = 0 then _ else none) = none
    rw [if_neg hE]
  have GOOD : Hid (∀ LL t' b tb, ¬ (549755813888 < n0 ∨ 64 < n1) → pLd (n0 : Int) n1 t2 = some (LL, t') → Bt.endE t'.1 t'.2 = 0 → ∀ w', LdS w w' b tb (n0 : Int) LL t' → Ldd w s (.returned (.tuple #[.pointer (some ⟨tb, 0, none⟩), .int .i64 0])) w') := Lib.hid fun LL t' b tb h hp hE w' hS => by
    refine .inr ⟨(n0 : Int), LL, tb, ?_, rfl, hS.mine⟩
    rw [PL, if_neg h, hp]
    show (if Bt.endE t'.1 t'.2 = 0 then some ((n0 : Int), LL) else none) = _
    rw [if_pos hE]
  have TK := Lib.hid (fun V b (k : Nat) LL t' (hp : pLd (n0 : Int) k t2 = some (LL, t')) (h : Bt.TapeAt V b t'.1 t'.2) => take_any (t := t') h (Nat.le_trans (pLd_le hp) s2))
  have P0 : Hid (pLd (n0 : Int) 0 t2 = some ([], t2)) := Lib.hid rfl
  have PN : Hid (∀ j LL t', pLd (n0 : Int) j t2 = some (LL, t') → ptE (n0 : Int) LL (pMt t').1 = 0 → pLd (n0 : Int) (j + 1) t2 = some (LL ++ [(pMt t').1], (pMt t').2)) := Lib.hid fun j LL t' hp hE => by
    show (pLd (n0 : Int) j t2).bind _ = _
    rw [hp]
    show (if ptE (n0 : Int) LL (pMt t').1 = 0 then some (LL ++ [(pMt t').1], (pMt t').2) else none) = _
    rw [if_pos hE]
  clear PL s2
  generalize Ldd w s = Q at *
  go_enter Try.func30, Try.ntmps30
  go_wp2_with fail
  refine AT.out.mono ?_
  rintro e w1 ⟨b, rfl, hb, tp, b1⟩
  have TP1 := Lib.hid tp
  have B1 := Lib.hid b1
  clear tp b1 AT
  go_wp2_with fail
  refine (NU0.out w1 b TP1.out).mono ?_
  rintro e w2 ⟨rfl, f2, tp2⟩
  have TP2 := Lib.hid tp2
  have B2 : Hid (Below w.heap.size w w2) := Lib.hid (B1.out.trans (f2.below (fun q e => by omega) B1.out.size))
  clear tp2 f2 TP1 B1 NU0
  go_wp2_with fail
  refine (NU1.out w2 b TP2.out).mono ?_
  rintro e w3 ⟨rfl, f3, tp3⟩
  have TP3 := Lib.hid tp3
  have B3 : Hid (Below w.heap.size w w3) := Lib.hid (B2.out.trans (f3.below (fun q e => by omega) B2.out.size))
  clear tp3 f3 TP2 B2 NU1
  by_cases g0 : 549755813888 < n0
  · have F := BAD.out (.inl g0) _ B3.out
    have gI : (549755813888 : Int) < (n0 : Int) := by omega
    have gB := decide_eq_true gI
    clear BAD BADL BADE GOOD TK P0 PN
    go_wp2_with fail
    exact F
  have gI : ¬ (549755813888 : Int) < (n0 : Int) := by omega
  have gB := decide_eq_false gI
  by_cases g1 : 64 < n1
  · have F := BAD.out (.inr g1) _ B3.out
    have hI : (64 : Int) < (n1 : Int) := by omega
    have hB := decide_eq_true hI
    clear BAD BADL BADE GOOD TK P0 PN
    go_wp2_with fail
    exact F
  have hI : ¬ (64 : Int) < (n1 : Int) := by omega
  have hB := decide_eq_false hI
  have g01 : ¬ (549755813888 < n0 ∨ 64 < n1) := by omega
  have hwr : IntKind.i64.wrap (n0 : Int) = (n0 : Int) := by rw [IntKind.wrap_i64]; omega
  obtain ⟨W4, hW4⟩ : ∃ W4, W4 = w3.alloc (.cells #[.int .i64 (n0 : Int), .slice none 0 0] 124) := ⟨_, rfl⟩
  have b4 : Below w3.heap.size w3 W4 := by rw [hW4]; exact (Below.refl _ w3).alloc (Nat.le_refl _) _
  have k4 : Blk W4 w3.heap.size 124 #[.int .i64 (n0 : Int), .slice none 0 0] := by rw [hW4]; exact Blk.new _ _ _
  have S0 : Hid (LdS w W4 b w3.heap.size (n0 : Int) [] t2) := Lib.hid ⟨⟨fun q => q = w3.heap.size, ⟨_, [], k4, .inl ⟨rfl, rfl⟩, Els.nil _ _, rfl, fun q hq => by simp [Value.ownBlock] at hq, fun q hq => by rw [hq]; exact k4.lt⟩, fun q hq => ⟨by rw [hq]; exact B3.out.size, by rw [hq]; have := TP3.out.lt; omega⟩⟩, ⟨by omega, by simp; omega, by simp⟩, fun _ h => by simp at h, TP3.out.next b4, B3.out.trans (b4.mono B3.out.size)⟩
  have HW4 := Lib.hid hW4
  clear hW4 b4 k4 BAD TP3 B3
  go_wp2_with (rw [← HW4.out])
  generalize w3.heap.size = tb at *
  go_loopw [25] (fun i wr => ∃ (j : Nat) (LL : List (List Int)) (t' : Tp), i = .int .u64 j ∧ j ≤ n1 ∧ Hid (pLd (n0 : Int) j t2 = some (LL, t')) ∧ Hid (LdS w wr b tb (n0 : Int) LL t')) (fun i _ => n1 - (intOf i).toNat)
  case atStart => exact ⟨0, [], t2, rfl, Nat.zero_le _, P0, S0⟩
  case round =>
    obtain ⟨j, LL, t', rfl, hj, hP, hS⟩ := hrel
    clear S0 P0 HW4
    by_cases hjn : j < n1
    · have jI : (j : Int) < (n1 : Int) := by omega
      have jB := decide_eq_true jI
      have HT := Lib.hid (TK.out wr b j LL t' hP.out hS.out.t)
      have hll : LL.length < 64 := by have := pLd_len hP.out; simp only at this; omega
      clear TK BADE GOOD
      go_wp2_with fail
      refine HT.out.mono ?_
      rintro e w5 ⟨u, rfl, ho, ht5, f5⟩
      obtain ⟨a, c, rfl, PC⟩ := hS.out.put hb ho ht5 f5
      have HPC := Lib.hid PC
      clear PC ho ht5 f5 HT hS
      have PN1 := Lib.hid (PN.out j LL t' hP.out)
      have BL1 := Lib.hid (BADL.out j LL t' g01 hjn hP.out)
      clear PN BADL hP
      generalize (pMt t').1 = xs at *
      generalize (pMt t').2 = t5 at *
      by_cases hE : ptE (n0 : Int) LL xs = 0
      · rw [hE] at HPC
        have PN2 := Lib.hid (PN1.out hE)
        clear BL1 PN1
        go_wp2_with fail
        refine HPC.out.mono ?_
        rintro e w6 ⟨rfl, -, hs6⟩
        have S6 := Lib.hid (hs6 trivial hll)
        clear hs6 HPC hE
        go_wp2_with fail
        go_roundw
        case rel => exact ⟨j + 1, _, _, by go_num, by omega, PN2, S6⟩
        case measure => simp [intOf]; omega
      · have BL2 := Lib.hid (BL1.out hE)
        clear PN1 BL1
        generalize ptE (n0 : Int) LL xs = pe at *
        have hEB := decide_eq_false hE
        go_wp2_with fail
        refine HPC.out.mono ?_
        rintro e w6 ⟨rfl, b6, -⟩
        have F := BL2.out _ b6
        clear HPC b6 BL2
        go_wp2_with fail
        exact F
    · obtain rfl : j = n1 := by omega
      have jI : ¬ (j : Int) < (j : Int) := by omega
      have HE := Lib.hid (Bt.end_any hS.out.t)
      have BE1 := Lib.hid (BADE.out LL t' g01 hP.out)
      have GD1 := Lib.hid (GOOD.out LL t' b tb g01 hP.out)
      clear TK BADE GOOD PN BADL hP
      have Bw := Lib.hid hS.out.f
      by_cases hE : Bt.endE t'.1 t'.2 = 0
      · have F := GD1.out hE wr hS.out
        rw [hE] at HE
        clear BE1 GD1 hS hE
        go_wp2_with fail
        refine HE.out.mono ?_
        rintro e w6 ⟨rfl, rfl⟩
        go_wp2_with fail
        exact F
      · have F := BE1.out hE wr Bw.out
        clear BE1 GD1 hS
        generalize Bt.endE t'.1 t'.2 = pe at *
        have hEB := decide_eq_false hE
        go_wp2_with fail
        refine HE.out.mono ?_
        rintro e w6 ⟨rfl, rfl⟩
        go_wp2_with fail
        exact F
end Go.Proofs.Ytggjpallbapcmaa.Bk
/-
  A book's text, plainly.
-/
namespace Go.Proofs.Ytggjpallbapcmaa.Bk
open Go.RowKit
theorem mixedE : Try.prog.follows .mixedOrders = true := by kernel_rfl
theorem ba_assoc (a b c : ByteArray) : a ++ b ++ c = a ++ (b ++ c) := ByteArray.append_assoc
theorem ba_nil (a : ByteArray) : a ++ ⟨#[]⟩ = a := by apply ByteArray.ext; simp
theorem ba_nil_l (a : ByteArray) : (⟨#[]⟩ : ByteArray) ++ a = a := by apply ByteArray.ext; simp
theorem ba_size (a b : ByteArray) : (a ++ b).size = a.size + b.size := ByteArray.size_append
/-- numbers' bytes -/
def pkS : List Int → ByteArray
  | [] => ⟨#[]⟩
  | x :: r => Bt.numS x ++ pkS r
/-- a match's bytes -/
def mtS (xs : List Int) : ByteArray := Bt.numS (xs.length : Int) ++ pkS xs
def bodS : List (List Int) → ByteArray
  | [] => ⟨#[]⟩
  | x :: r => mtS x ++ bodS r
def txtS (base : Int) (LL : List (List Int)) : ByteArray := Bt.numS base ++ Bt.numS (LL.length : Int) ++ bodS LL
theorem pkS_app (l r : List Int) : pkS (l ++ r) = pkS l ++ pkS r := by
  induction l with
  | nil => exact (ba_nil_l _).symm
  | cons x l ih => rw [List.cons_append]; show Bt.numS x ++ pkS (l ++ r) = _; rw [ih, ← ba_assoc]; rfl
theorem pkS_take {L : List Int} {j : Nat} (h : j < L.length) : pkS (L.take (j + 1)) = pkS (L.take j) ++ Bt.numS L[j] := by
  rw [List.take_succ_eq_append_getElem h, pkS_app]
  congr 1
  exact ba_nil _
theorem bodS_app (l r : List (List Int)) : bodS (l ++ r) = bodS l ++ bodS r := by
  induction l with
  | nil => exact (ba_nil_l _).symm
  | cons x l ih => rw [List.cons_append]; show mtS x ++ bodS (l ++ r) = _; rw [ih, ← ba_assoc]; rfl
theorem bodS_one (x : List Int) : bodS [x] = mtS x := ba_nil _
theorem pkS_size (L : List Int) : (pkS L).size ≤ 9 * L.length := by
  induction L with
  | nil => exact Nat.zero_le _
  | cons x r ih =>
    have := Bt.numS_size x
    show (Bt.numS x ++ pkS r).size ≤ _
    rw [ba_size, List.length_cons]; omega
theorem mtS_size {xs : List Int} (h : xs.length ≤ 16) : (mtS xs).size ≤ 153 := by
  have := Bt.numS_size (xs.length : Int)
  have := pkS_size xs
  unfold mtS
  rw [ba_size]; omega
theorem bodS_size : ∀ {L : List (List Int)}, (∀ x ∈ L, x.length ≤ 16) → (bodS L).size ≤ 153 * L.length
  | [], _ => Nat.zero_le _
  | x :: r, h => by
    have h1 := mtS_size (h x (by simp))
    have h2 := bodS_size (L := r) (fun y hy => h y (by simp [hy]))
    show (mtS x ++ bodS r).size ≤ _
    rw [ba_size, List.length_cons]; omega
end Go.Proofs.Ytggjpallbapcmaa.Bk
/-
  WHAT IS WRITTEN IS READ AS IT WAS: plain, of each kind.
-/
namespace Go.Proofs.Ytggjpallbapcmaa.Bt
open Go.RowKit
theorem join_be (k : Nat) : ∀ n : Nat, joinN (u8l (be k (n : Int))) = n % 256 ^ k := by
  induction k with
  | zero => intro n; simp [be, u8l, joinN, Nat.mod_one]
  | succ k ih =>
    intro n
    have e : ((n : Int) / 256) = ((n / 256 : Nat) : Int) := by omega
    rw [be, u8s_snoc, joinN_snoc, e, ih, Nat.pow_succ, Nat.mul_comm (256 ^ k) 256, Nat.mod_mul]
    have e2 : (UInt8.ofNat ((n : Int) % 256).toNat).toNat = n % 256 := by
      rw [UInt8.toNat_ofNat']; omega
    rw [e2]; omega
theorem u8l_len (l : List Int) : (u8l l).length = l.length := by simp [u8l]
theorem wid_hi {n : Nat} (h : n < 18446744073709551616) : n < 256 ^ wid (n : Int) := by
  unfold wid
  repeat' split
  all_goals simp only [Nat.reducePow]; omega
theorem wid_lo {n : Nat} (h : 247 < n) : leastN (wid (n : Int)) ≤ n := by
  unfold wid leastN
  repeat' split
  all_goals first | omega | (simp only [Nat.reduceSub, Nat.reducePow]; omega)
theorem rd_num (n : Nat) (h : n < 18446744073709551616) (more : List UInt8) : rdNum ((numS (n : Int)).data.toList ++ more) = (n, (numS (n : Int)).size, 0) := by
  rw [Lib.size_eq]
  unfold numS
  rw [strOfNums_data]
  by_cases h1 : (n : Int) ≤ 247
  · unfold numI
    rw [if_pos h1]
    have e : (UInt8.ofNat ((n : Int).toNat)).toNat = n := by rw [UInt8.toNat_ofNat']; omega
    simp only [List.map_cons, List.map_nil, List.cons_append, List.nil_append, rdNum, e]
    rw [if_pos (by omega)]
    simp
  · unfold numI
    rw [if_neg h1]
    have hw := wid_le (n : Int)
    have e : (UInt8.ofNat (((247 + wid (n : Int) : Nat) : Int).toNat)).toNat = 247 + wid (n : Int) := by rw [UInt8.toNat_ofNat']; omega
    simp only [List.map_cons, List.cons_append, rdNum, e]
    have hl : (List.map (fun m : Int => UInt8.ofNat m.toNat) (be (wid (n : Int)) (n : Int))).length = wid (n : Int) := by rw [List.length_map, be_len]
    have ht : (List.map (fun m : Int => UInt8.ofNat m.toNat) (be (wid (n : Int)) (n : Int)) ++ more).take (wid (n : Int)) = u8l (be (wid (n : Int)) (n : Int)) := by
      rw [List.take_append_of_le_length (by omega), List.take_of_length_le (by omega)]; rfl
    rw [if_neg (by omega), if_neg (by rw [List.length_append, hl]; omega), show 247 + wid (n : Int) - 247 = wid (n : Int) by omega, ht, join_be, Nat.mod_eq_of_lt (wid_hi h), if_neg (by have := wid_lo (n := n) (by omega); omega)]
    simp only [List.length_cons, hl]
theorem rd_int (n : Int) (h0 : -9223372036854775808 ≤ n) (h1 : n ≤ 9223372036854775807) (more : List UInt8) : rdInt ((intS n).data.toList ++ more) = (n, (intS n).size, 0) := by
  unfold rdInt intS
  rw [rd_num _ (by have := zig_lt h0 h1; omega)]
  have e : unz (Lib.zigzag n) = n := by
    unfold unz Lib.zigzag
    split <;> split <;> omega
  rw [e]
theorem rd_flag (b : Bool) (more : List UInt8) : rdFlag ((flagS b).data.toList ++ more) = (b, (flagS b).size, 0) := by
  cases b <;> rfl
theorem rd_text (s more : ByteArray) (hs : s.size < 9223372036854775808) : rdText (textS s ++ more) (s.size : Int) = (s, (textS s).size, 0) := by
  have hd : (textS s ++ more).data.toList = (numS (s.size : Int)).data.toList ++ (s.data.toList ++ more.data.toList) := by
    unfold textS; rw [cat_data, cat_data, List.append_assoc]
  have hR : rdNum (textS s ++ more).data.toList = (s.size, (numS (s.size : Int)).size, 0) := by rw [hd]; exact rd_num _ (by omega) _
  have hz : (textS s ++ more).size = (numS (s.size : Int)).size + s.size + more.size := by unfold textS; rw [ByteArray.size_append, ByteArray.size_append]
  rw [rdText_eq _ _ hR, if_neg (by simp), if_neg (by omega), if_neg (by omega)]
  have ht : (textS s).size = (numS (s.size : Int)).size + s.size := by unfold textS; rw [ByteArray.size_append]
  rw [ht]
  refine congrArg (fun x => (x, _)) ?_
  apply bytes_ext
  rw [Lib.extract_data, hd, Lib.size_eq (numS (s.size : Int)), List.drop_left, Nat.add_sub_cancel_left, Lib.size_eq s, List.take_left]
theorem none_none : isNo 9221120237041090561 = true := by decide +kernel
theorem codeN_idem (f : Nat) : codeN (codeN f) = codeN f := by
  by_cases h : isNo f
  · have e : codeN f = 9221120237041090561 := by unfold codeN; rw [if_pos h]
    rw [e]
    unfold codeN
    rw [if_pos none_none]
  · have e : codeN f = f := by unfold codeN; rw [if_neg h]
    rw [e, e]
theorem rd_real (f : Nat) (hf : f < 18446744073709551616) (more : List UInt8) : rdReal ((realS f).data.toList ++ more) = (codeN f, (realS f).size, 0) := by
  have hl : (realS f).data.toList = u8l (be 8 ((codeN f : Nat) : Int)) := by unfold realS; rw [strOfNums_data]; rfl
  have hs : (realS f).size = 8 := by rw [Lib.size_eq, hl, u8l_len, be_len]
  have ht : ((realS f).data.toList ++ more).take 8 = u8l (be 8 ((codeN f : Nat) : Int)) := by
    rw [hl, List.take_append_of_le_length (by rw [u8l_len, be_len]; exact Nat.le_refl _), List.take_of_length_le (by rw [u8l_len, be_len]; exact Nat.le_refl _)]
  have hj : joinN (u8l (be 8 ((codeN f : Nat) : Int))) = codeN f := by
    rw [join_be]
    exact Nat.mod_eq_of_lt (codeN_lt hf)
  unfold rdReal
  rw [ht, hj, if_neg (by rw [List.length_append, ← Lib.size_eq, hs]; omega), if_neg (by rw [codeN_idem]; simp), hs]
end Go.Proofs.Ytggjpallbapcmaa.Bt
/-
  What is written is read as it was, plainly.
-/
namespace Go.Proofs.Ytggjpallbapcmaa.Bk
open Go.RowKit
theorem drop_cat (a b : ByteArray) : (a ++ b).extract a.size (a ++ b).size = b := Bt.bytes_ext (by
  rw [Bt.ext_data, Bt.cat_data, List.drop_left' (by rw [Lib.size_eq])])
theorem num_put (n : Nat) (hn : n < 18446744073709551616) (rest : ByteArray) : pn (Bt.numS (n : Int) ++ rest, 0) = (n, (rest, 0)) := by
  unfold pn Bt.tNum
  simp only
  rw [Bt.cat_data, Bt.rd_num n hn, Bt.tk_ok, drop_cat]
theorem pNs_put (xs : List Int) (hx : ∀ x ∈ xs, 0 ≤ x ∧ x ≤ 549755813888) (rest : ByteArray) : ∀ k, k ≤ xs.length → pNs k (pkS xs ++ rest, 0) = (xs.take k, (pkS (xs.drop k) ++ rest, 0))
  | 0, _ => by rw [List.take_zero, List.drop_zero]; rfl
  | k + 1, hk => by
    have ih := pNs_put xs hx rest k (by omega)
    have hkl : k < xs.length := by omega
    show ((pNs k (pkS xs ++ rest, 0)).1 ++ [IntKind.i64.wrap ((pn (pNs k (pkS xs ++ rest, 0)).2).1 : Int)], (pn (pNs k (pkS xs ++ rest, 0)).2).2) = _
    rw [ih, List.drop_eq_getElem_cons hkl]
    have hy := hx xs[k] (List.getElem_mem hkl)
    have hp : pkS (xs[k] :: xs.drop (k + 1)) ++ rest = Bt.numS ((xs[k].toNat : Nat) : Int) ++ (pkS (xs.drop (k + 1)) ++ rest) := by
      show Bt.numS xs[k] ++ pkS (xs.drop (k + 1)) ++ rest = _
      rw [ba_assoc, Int.toNat_of_nonneg hy.1]
    simp only [hp]
    rw [num_put _ (by omega)]
    simp only
    rw [List.take_succ_eq_append_getElem hkl, Int.toNat_of_nonneg hy.1, show IntKind.i64.wrap xs[k] = xs[k] by rw [IntKind.wrap_i64]; omega]
theorem pMt_put {xs : List Int} (h : mayB xs = true) (rest : ByteArray) : pMt (mtS xs ++ rest, 0) = (xs, (rest, 0)) := by
  have hl := mayB_len h
  unfold pMt mtS
  rw [ba_assoc, num_put _ (by omega)]
  simp only
  rw [Nat.min_eq_left (by omega), pNs_put xs (mayB_all h) rest xs.length (Nat.le_refl _), List.take_of_length_le (Nat.le_refl _), List.drop_of_length_le (Nat.le_refl _)]
  rw [show pkS [] = ⟨#[]⟩ from rfl, ba_nil_l]
theorem pLd_put {base : Int} {LL : List (List Int)} (sh : Shr LL) (hb : base + LL.length ≤ 549755813888) (rest : ByteArray) : ∀ k, k ≤ LL.length → pLd base k (bodS LL ++ rest, 0) = some (LL.take k, (bodS (LL.drop k) ++ rest, 0))
  | 0, _ => by rw [List.take_zero, List.drop_zero]; rfl
  | k + 1, hk => by
    have ih := pLd_put sh hb rest k (by omega)
    have hkl : k < LL.length := by omega
    have hm := sh LL[k] (List.getElem_mem hkl)
    show (pLd base k (bodS LL ++ rest, 0)).bind _ = _
    rw [ih, List.drop_eq_getElem_cons hkl]
    have hp : bodS (LL[k] :: LL.drop (k + 1)) ++ rest = mtS LL[k] ++ (bodS (LL.drop (k + 1)) ++ rest) := by
      show mtS LL[k] ++ bodS (LL.drop (k + 1)) ++ rest = _
      rw [ba_assoc]
    have hE : ptE base (LL.take k) LL[k] = 0 := by
      unfold ptE
      rw [if_pos hm, List.length_take, Nat.min_eq_left (by omega), if_neg (by omega)]
    show (if ptE base (LL.take k) (pMt (bodS (LL[k] :: LL.drop (k + 1)) ++ rest, 0)).1 = 0 then some (LL.take k ++ [(pMt (bodS (LL[k] :: LL.drop (k + 1)) ++ rest, 0)).1], (pMt (bodS (LL[k] :: LL.drop (k + 1)) ++ rest, 0)).2) else none) = _
    rw [hp, pMt_put hm]
    simp only
    rw [if_pos hE, List.take_succ_eq_append_getElem hkl]
theorem pLoad_put {base : Int} {LL : List (List Int)} (ok : BOk base LL) (sh : Shr LL) : pLoad (txtS base LL) = some (base, LL) := by
  have h0 := ok.b0
  have h1 := ok.b1
  have h2 := ok.n
  obtain ⟨b, rfl⟩ : ∃ b : Nat, base = (b : Int) := ⟨base.toNat, by omega⟩
  have hT : txtS (b : Int) LL = Bt.numS (b : Int) ++ (Bt.numS (LL.length : Int) ++ bodS LL) := by unfold txtS; rw [ba_assoc]
  have p0 : pn (txtS (b : Int) LL, 0) = (b, (Bt.numS (LL.length : Int) ++ bodS LL, 0)) := by rw [hT, num_put _ (by omega)]
  have p1 : pn (Bt.numS (LL.length : Int) ++ bodS LL, 0) = (LL.length, (bodS LL, 0)) := num_put _ (by omega) _
  have p2 := pLd_put (base := (b : Int)) sh h1 ⟨#[]⟩ LL.length (Nat.le_refl _)
  rw [ba_nil, List.take_of_length_le (Nat.le_refl _), List.drop_of_length_le (Nat.le_refl _), ba_nil] at p2
  unfold pLoad
  rw [p0]
  simp only
  rw [p1]
  simp only
  rw [if_neg (by omega), p2]
  rfl
end Go.Proofs.Ytggjpallbapcmaa.Bk
