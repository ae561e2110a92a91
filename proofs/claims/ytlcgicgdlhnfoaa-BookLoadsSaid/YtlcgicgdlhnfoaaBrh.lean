/-
  BookLoads: the document's Load 21.
-/
import Derived.Test.YtlcgicgdlhnfoaaBrg
namespace Go.Proofs.Ytlcgicgdlhnfoaa
open Go.RowKit
/-- what the document's Load leaves -/
def Rlo (w : World) (s : ByteArray) (e : Ending) (w' : World) : Prop :=
  (pLoad s = none ∧ e = .returned (.tuple #[.agg #[.int .i64 0, .slice none 0 0], .int .i64 3]) ∧ Below w.heap.size w w') ∨
  ∃ base LL a c, pLoad s = some (base, LL) ∧ e = .returned (.tuple #[.agg #[.int .i64 base, .slice a LL.length c], .int .i64 0]) ∧ Rws w' a LL ∧ Below w.heap.size w w'
theorem dNs_le : ∀ {k : Nat} {t : Tp} {r : List Int × Tp}, dNs k t = some r → r.2.1.size ≤ t.1.size ∧ r.1.length = k
  | 0, t, r, h => by unfold dNs at h; cases h; exact ⟨Nat.le_refl _, rfl⟩
  | k + 1, t, r, h => by
    unfold dNs at h
    obtain ⟨r0, h0, h1⟩ := Option.bind_eq_some_iff.1 h
    have ih := dNs_le h0
    by_cases hb : 549755813888 < (pn r0.2).1
    · rw [if_pos hb] at h1; cases h1
    · rw [if_neg hb] at h1; cases h1
      exact ⟨Nat.le_trans (pn_le _) ih.1, by simp [ih.2]⟩
theorem dNs_succ {k : Nat} {t : Tp} {xs : List Int} {tk t2 : Tp} {x : Nat} (h : dNs k t = some (xs, tk)) (hp : pn tk = (x, t2)) : dNs (k + 1) t = if 549755813888 < x then none else some (xs ++ [(x : Int)], t2) := by
  show (dNs k t).bind _ = _
  rw [h]
  show (if 549755813888 < (pn tk).1 then none else some (xs ++ [((pn tk).1 : Int)], (pn tk).2)) = _
  rw [hp]
theorem dLd_succ {k n : Nat} {t tk t2 : Tp} {LL : List (List Int)} (h : dLd k t = some (LL, tk)) (hp : pn tk = (n, t2)) : dLd (k + 1) t = if 16 < n then none else ((dNs n t2).bind fun r => if mayB r.1 = true then some (LL ++ [r.1], r.2) else none) := by
  show (dLd k t).bind _ = _
  rw [h]
  show ((dMt tk).bind fun m => some (LL ++ [m.1], m.2)) = _
  unfold dMt
  rw [hp]
  by_cases h16 : 16 < n
  · rw [if_pos h16, if_pos h16]; rfl
  · rw [if_neg h16, if_neg h16]
    show (((dNs n t2).bind fun r => if mayB r.1 = true then some r else none).bind fun m => some (LL ++ [m.1], m.2)) = _
    cases hd : dNs n t2 with
    | none => rfl
    | some r =>
      show ((if mayB r.1 = true then some r else none).bind fun m => some (LL ++ [m.1], m.2)) = (if mayB r.1 = true then some (LL ++ [r.1], r.2) else none)
      by_cases hm : mayB r.1 = true
      · rw [if_pos hm, if_pos hm]; rfl
      · rw [if_neg hm, if_neg hm]; rfl
theorem inn_step {W5 W7 w8 : World} {b6 i : Nat} {x : Int} {v v' : Value} {xs : List Int} {tx : Tp} (F7 : Fr W5 W7 (fun q => q = b6)) (X7 : Bt.BoxAt W7 b6 tx.1 tx.2) (hb6 : b6 < W5.heap.size) (hl : xs.length = i) (h7 : W7.ownsRow W5.heap.size 3 1 v i (xs.map (Value.int .i64)))
    (hown : w8.ownsRow W5.heap.size 3 1 v' (i + 1) (xs.map (Value.int .i64) ++ [.int .i64 x])) (hg : (W7.alloc (.cells #[.int .i64 x] 3)).grownBy w8 v.ownBlock) : OwnN w8 W5.heap.size v' (xs ++ [x]) ∧ Fr W5 w8 (fun q => q = b6) ∧ Bt.BoxAt w8 b6 tx.1 tx.2 := by
  have f78 : Fr W7 w8 (fun q => v.ownBlock = some q) := (Fr.of_below (BN1 W7 _) _).on ((Fr.of_grown hg).mono (fun q _ e => e.symm))
  have hv : ∀ q, v.ownBlock = some q → W5.heap.size ≤ q := fun q hq => (own_ty h7 q hq).1
  refine ⟨?_, F7.trans f78 (fun _ _ h => h) (fun q hq e => by have := hv q e; omega), box_fr X7 f78 (fun e => by have := hv _ e; omega)⟩
  unfold OwnN
  rw [List.length_append, List.map_append, hl]
  exact hown
theorem may_own {wr V : World} {B n : Nat} {pa : Option Addr} {pc : Nat} {xs : List Int} (hP : OwnN wr B (.slice pa n pc) xs) (hl : xs.length = n) (b : Below wr.heap.size wr V) (hn : n ≤ 16) :
    Calls Try.prog 25 #[.slice pa n pc] V fun e w' => e = .returned (.bool (mayB xs)) ∧ Below V.heap.size V w' := by
  subst hl
  obtain ⟨a2, c2, e2, nn⟩ := hP.nums
  simp only [Value.slice.injEq, true_and] at e2
  obtain ⟨rfl, rfl⟩ := e2
  exact rmay_any pc (nn.next b) (by omega)
theorem OwnN.nx {w w' : World} {B : Nat} {v : Value} {xs : List Int} (h : OwnN w B v xs) (b : Below w.heap.size w w') : OwnN w' B v xs := h.fr (Fr.of_below b (fun _ => False)) (fun _ _ h => h)
set_option maxHeartbeats 8000000 in
set_option maxRecDepth 100000 in
theorem rload_any {s : ByteArray} (hs : s.size ≤ 281474976710656) (w : World) : Calls Try.prog 21 #[.string s] w (Rlo w s) := by
  obtain ⟨n0, t1, hn0⟩ : ∃ n0 t1, pn (s, 0) = (n0, t1) := ⟨_, _, rfl⟩
  obtain ⟨n1, t2, hn1⟩ : ∃ n1 t2, pn t1 = (n1, t2) := ⟨_, _, rfl⟩
  have l0 : n0 < 18446744073709551616 := by have := pn_lt (s, 0); rw [hn0] at this; exact this
  have l1 : n1 < 18446744073709551616 := by have := pn_lt t1; rw [hn1] at this; exact this
  have s1 : t1.1.size ≤ 281474976710656 := by have := pn_le (s, 0); rw [hn0] at this; exact Nat.le_trans this hs
  have s2 : t2.1.size ≤ 281474976710656 := by have := pn_le t1; rw [hn1] at this; exact Nat.le_trans this s1
  have PL : pLoad s = if 549755813888 < n0 ∨ 64 < n1 then none else (dLd n1 t2).bind fun r => if Bt.endE r.2.1 r.2.2 = 0 ∧ (n0 : Int) + (r.1.length : Int) ≤ 549755813888 then some ((n0 : Int), r.1) else none := by
    rw [pLoad_d, hn0]
    simp only [hn1]
  have NU0 := Lib.hid (fun V => rpn_any (s, 0) hs V)
  have NU1 := Lib.hid (fun V => rpn_any t1 s1 V)
  rw [hn0] at NU0
  rw [hn1] at NU1
  simp only at NU0 NU1
  have BAD0 : Hid ((549755813888 < n0 ∨ 64 < n1) → ∀ w', Below w.heap.size w w' → Rlo w s (.returned (.tuple #[.agg #[.int .i64 0, .slice none 0 0], .int .i64 3])) w') := Lib.hid fun h w' b => .inl ⟨by rw [PL, if_pos h], rfl, b⟩
  have BADK : Hid (∀ k, ¬ (549755813888 < n0 ∨ 64 < n1) → k ≤ n1 → dLd k t2 = none → ∀ w', Below w.heap.size w w' → Rlo w s (.returned (.tuple #[.agg #[.int .i64 0, .slice none 0 0], .int .i64 3])) w') := Lib.hid fun k h hk hd w' b => .inl ⟨by rw [PL, if_neg h, dLd_none hd hk]; rfl, rfl, b⟩
  have BADE : Hid (∀ LL t', ¬ (549755813888 < n0 ∨ 64 < n1) → dLd n1 t2 = some (LL, t') → ¬ (Bt.endE t'.1 t'.2 = 0 ∧ (n0 : Int) + (LL.length : Int) ≤ 549755813888) → ∀ w', Below w.heap.size w w' → Rlo w s (.returned (.tuple #[.agg #[.int .i64 0, .slice none 0 0], .int .i64 3])) w') := Lib.hid fun LL t' h hd he w' b => by
    refine .inl ⟨?_, rfl, b⟩
    rw [PL, if_neg h, hd]
    show (if Bt.endE t'.1 t'.2 = 0 ∧ (n0 : Int) + (LL.length : Int) ≤ 549755813888 then some ((n0 : Int), LL) else none) = none
    rw [if_neg he]
  have GOOD : Hid (∀ LL t' a c, ¬ (549755813888 < n0 ∨ 64 < n1) → dLd n1 t2 = some (LL, t') → (Bt.endE t'.1 t'.2 = 0 ∧ (n0 : Int) + (LL.length : Int) ≤ 549755813888) → ∀ w', Rws w' a LL → Below w.heap.size w w' → Rlo w s (.returned (.tuple #[.agg #[.int .i64 (n0 : Int), .slice a LL.length c], .int .i64 0])) w') := Lib.hid fun LL t' a c h hd he w' r b => by
    refine .inr ⟨(n0 : Int), LL, a, c, ?_, rfl, r, b⟩
    rw [PL, if_neg h, hd]
    show (if Bt.endE t'.1 t'.2 = 0 ∧ (n0 : Int) + (LL.length : Int) ≤ 549755813888 then some ((n0 : Int), LL) else none) = _
    rw [if_pos he]
  have BADX : Hid (∀ V, Blk V w.heap.size 27 #[.int .i64 0, .slice none 0 0] → Below w.heap.size w V → ∃ V5, V5 = (V.setCell ⟨w.heap.size, 0, none⟩ (.int .i64 0)).setCell ⟨w.heap.size, 1, none⟩ (.slice none 0 0) ∧ V5.cell? ⟨w.heap.size, 0, none⟩ = some (.int .i64 0) ∧ V5.cell? ⟨w.heap.size, 1, none⟩ = some (.slice none 0 0) ∧ Below w.heap.size w V5) := Lib.hid fun V K b => by
    have K5 := (K.set 0 (.int .i64 0)).set 1 (.slice none 0 0)
    exact ⟨_, rfl, K5.cell 0, K5.cell 1, (b.setCell (p := ⟨w.heap.size, 0, none⟩) (Nat.le_refl _) _).setCell (p := ⟨w.heap.size, 1, none⟩) (Nat.le_refl _) _⟩
  obtain ⟨W0, hW0⟩ : ∃ W0, W0 = w.alloc (.cells #[.int .i64 0, .slice none 0 0] 27) := ⟨_, rfl⟩
  have K0 : Hid (Blk W0 w.heap.size 27 #[.int .i64 0, .slice none 0 0]) := Lib.hid (by rw [hW0]; exact Blk.new _ _ _)
  have B0 : Hid (Below w.heap.size w W0) := Lib.hid (by rw [hW0]; exact BN1 _ _)
  have HW0 := Lib.hid hW0
  clear PL hW0 hn0 hn1 s1
  generalize Rlo w s = Q at *
  go_enter Try.func21, Try.ntmps21
  go_wp2_with (rw [← HW0.out])
  refine (NU0.out _).mono ?_
  rintro e w1 ⟨rfl, b1⟩
  obtain ⟨W1, hW1⟩ : ∃ W1, W1 = w1.alloc (.cells #[.string t1.1, .int .i64 t1.2] 75) := ⟨_, rfl⟩
  have b01 : Below W0.heap.size W0 W1 := b1.trans ((BN1 w1 _).mono b1.size |> fun h => by rw [hW1]; exact h)
  have X1 : Bt.BoxAt W1 w1.heap.size t1.1 t1.2 := by rw [hW1]; exact Bt.box_new _ _ _
  have K1 := Lib.hid (K0.out.next b01)
  have B1 := Lib.hid (B0.out.trans (b01.mono B0.out.size))
  have z0 := X1.c0
  have z1 := X1.c1
  have HW1 := Lib.hid hW1
  clear b1 b01 X1 hW1 K0 B0 HW0 NU0
  go_wp2_with (rw [← HW1.out])
  refine (NU1.out _).mono ?_
  rintro e w2 ⟨rfl, b2⟩
  obtain ⟨W2, hW2⟩ : ∃ W2, W2 = w2.alloc (.cells #[.string t2.1, .int .i64 t2.2] 75) := ⟨_, rfl⟩
  have b12 : Below W1.heap.size W1 W2 := b2.trans ((BN1 w2 _).mono b2.size |> fun h => by rw [hW2]; exact h)
  have X2 := Lib.hid (show Bt.BoxAt W2 w2.heap.size t2.1 t2.2 by rw [hW2]; exact Bt.box_new _ _ _)
  have K2 := Lib.hid (K1.out.next b12)
  have B2 := Lib.hid (B1.out.trans (b12.mono B1.out.size))
  have HW2 := Lib.hid hW2
  have h02 : Hid (w.heap.size < w2.heap.size ∧ w2.heap.size < W2.heap.size) := Lib.hid ⟨Nat.lt_of_lt_of_le K1.out.lt b2.size, X2.out.lt⟩
  clear b2 b12 hW2 K1 B1 HW1 NU1 z0 z1
  by_cases g0 : 549755813888 < n0
  · have gI : (549755813888 : Int) < (n0 : Int) := by omega
    have gB := decide_eq_true gI
    obtain ⟨V5, hV5, y0, y1, b5⟩ := BADX.out _ K2.out B2.out
    have HV5 := Lib.hid hV5
    have r0 := (K2.out).cell 0
    have r1 := (K2.out).cell 1
    have e0 := (K2.out).free 0
    have e1 := (K2.out).free 1
    have FX := (BAD0.out (.inl g0)) _ b5
    clear hV5 b5
    go_wp2_with (rw [← HW2.out])
    rw [← HV5.out]
    refine bodyPost_ret (by simp [results, Try.results21, go_sem, y0, y1]; try rfl) rfl ?_
    exact FX
  have gI : ¬ (549755813888 : Int) < (n0 : Int) := by omega
  have gB := decide_eq_false gI
  by_cases g1 : 64 < n1
  · have hI : (64 : Int) < (n1 : Int) := by omega
    have hB := decide_eq_true hI
    obtain ⟨V5, hV5, y0, y1, b5⟩ := BADX.out _ K2.out B2.out
    have HV5 := Lib.hid hV5
    have r0 := (K2.out).cell 0
    have r1 := (K2.out).cell 1
    have e0 := (K2.out).free 0
    have e1 := (K2.out).free 1
    have FX := (BAD0.out (.inr g1)) _ b5
    clear hV5 b5
    go_wp2_with (rw [← HW2.out])
    rw [← HV5.out]
    refine bodyPost_ret (by simp [results, Try.results21, go_sem, y0, y1]; try rfl) rfl ?_
    exact FX
  have hI : ¬ (64 : Int) < (n1 : Int) := by omega
  have hB := decide_eq_false hI
  have GG := Lib.hid (show ¬ (549755813888 < n0 ∨ 64 < n1) by omega)
  have w0 : IntKind.i64.wrap (n0 : Int) = (n0 : Int) := by rw [IntKind.wrap_i64]; omega
  have w1' : IntKind.i64.wrap (n1 : Int) = (n1 : Int) := by rw [IntKind.wrap_i64]; omega
  obtain ⟨W3, hW3⟩ : ∃ W3, W3 = W2.alloc (.cells #[.int .i64 (n0 : Int), .slice none 0 0] 27) := ⟨_, rfl⟩
  have b23 : Below W2.heap.size W2 W3 := by rw [hW3]; exact BN1 _ _
  have L3 : Hid (Lst w W3 w2.heap.size W2.heap.size W3.heap.size (n0 : Int) t2 (.slice none 0 0) []) := Lib.hid
    ⟨K2.out.next b23, X2.out.next b23, by rw [hW3]; exact Blk.new _ _ _, ⟨World.ownsRow_nil _ _ _ _, fun x hx => by simp at hx⟩, B2.out.trans (b23.mono B2.out.size), Nat.le_refl _, ⟨h02.out.1, h02.out.2, by rw [hW3]; simp⟩⟩
  have HW3 := Lib.hid hW3
  clear b23 hW3 K2 B2 X2 h02 BAD0
  generalize hB3 : W3.heap.size = B at L3
  clear hB3
  go_wp2_with (first | rw [← HW2.out] | rw [← HW3.out])
  have D0 : Hid (dLd 0 t2 = some ([], t2)) := Lib.hid rfl
  have R0 : Hid (([] : List Mv).map (fun x : Mv => x.2) = []) := Lib.hid rfl
  obtain ⟨i29, hi, hz0, hz1, hz2⟩ := info_parts info29
  obtain ⟨i3, hi3, hz30, hz31, hz32⟩ := info_parts info3
  clear HW2 HW3
  generalize w2.heap.size = b6 at *
  generalize W2.heap.size = b8 at *
  go_loopw [9] (fun i wr => ∃ (j : Nat) (t : Tp) (v : Value) (ms : List Mv) (LL : List (List Int)), i = .int .i64 j ∧ j ≤ n1 ∧ t.1.size ≤ 281474976710656 ∧ Hid (dLd j t2 = some (LL, t)) ∧ Hid (ms.map (fun x : Mv => x.2) = LL) ∧ Hid (Lst w wr b6 b8 B (n0 : Int) t v ms)) (fun i _ => n1 - (intOf i).toNat)
  case atStart => exact ⟨0, t2, _, [], [], rfl, Nat.zero_le _, s2, D0, R0, L3⟩
  case round =>
    obtain ⟨j, t, v, ms, LL, rfl, hj, hts, hD, hR, hS⟩ := hrel
    clear L3 D0 R0 s2
    obtain ⟨va, vc, hv⟩ := hS.out.o.form
    have hml : ms.length = j := by
      have := congrArg List.length hR.out
      rw [List.length_map, dLd_len hD.out] at this
      exact this
    rw [hml] at hv
    subst hv
    have HML := Lib.hid hml
    clear hml
    have z0 := hS.out.x.c0
    have z1 := hS.out.x.c1
    by_cases hjn : j < n1
    rotate_left
    · obtain rfl : j = n1 := by omega
      have jI : ¬ (j : Int) < (j : Int) := by omega
      have y0 := hS.out.y.cell 0
      have y1 := hS.out.y.cell 1
      have RE := Lib.hid (fun V => rend_any t.1 t.2 V)
      obtain ⟨ee, hee⟩ : ∃ ee, ee = Bt.endE t.1 t.2 := ⟨_, rfl⟩
      rw [← hee] at RE
      have HE := Lib.hid hee
      clear hee
      go_wp2_with fail
      refine (RE.out _).mono ?_
      rintro e w5 ⟨rfl, b5⟩
      have L5 := Lib.hid (hS.out.next b5)
      have y0 := L5.out.y.cell 0
      have y1 := L5.out.y.cell 1
      clear hS b5 RE z0 z1
      have hLL : LL.length = j := dLd_len hD.out
      have HLL := Lib.hid hLL
      clear hLL
      have wj : IntKind.i64.wrap (549755813888 - (j : Int)) = 549755813888 - (j : Int) := by rw [IntKind.wrap_i64]; omega
      by_cases he : ee = 0
      rotate_left
      · have heB : (ee != 0) = true := by simp [he]
        obtain ⟨V5, hV5, y0, y1, b5⟩ := BADX.out _ L5.out.r L5.out.f
        have HV5 := Lib.hid hV5
        have r0 := (L5.out.r).cell 0
        have r1 := (L5.out.r).cell 1
        have e0 := (L5.out.r).free 0
        have e1 := (L5.out.r).free 1
        have FX := (BADE.out LL t GG.out hD.out (fun h => he (HE.out.trans h.1))) _ b5
        clear hV5 b5
        go_wp2_with fail
        rw [← HV5.out]
        refine bodyPost_ret (by simp [results, Try.results21, go_sem, y0, y1]; try rfl) rfl ?_
        exact FX
      subst he
      by_cases hk : 549755813888 - (j : Int) < (n0 : Int)
      · have hkB := decide_eq_true hk
        obtain ⟨V5, hV5, y0, y1, b5⟩ := BADX.out _ L5.out.r L5.out.f
        have HV5 := Lib.hid hV5
        have r0 := (L5.out.r).cell 0
        have r1 := (L5.out.r).cell 1
        have e0 := (L5.out.r).free 0
        have e1 := (L5.out.r).free 1
        have FX := (BADE.out LL t GG.out hD.out (fun h => by have := h.2; rw [HLL.out] at this; omega)) _ b5
        clear hV5 b5
        go_wp2_with fail
        rw [← HV5.out]
        refine bodyPost_ret (by simp [results, Try.results21, go_sem, y0, y1]; try rfl) rfl ?_
        exact FX
      have hkB := decide_eq_false hk
      have r0 := L5.out.r.cell 0
      have r1 := L5.out.r.cell 1
      have e0 := L5.out.r.free 0
      have e1 := L5.out.r.free 1
      obtain ⟨V5, hV5⟩ : ∃ V5, V5 = (w5.setCell ⟨w.heap.size, 0, none⟩ (.int .i64 (n0 : Int))).setCell ⟨w.heap.size, 1, none⟩ (.slice va j vc) := ⟨_, rfl⟩
      have f5 : Fr w5 V5 (fun q => q = w.heap.size) := by rw [hV5]; exact ((Fr.refl w5 (fun q => q = w.heap.size)).set w.heap.size 0 _ (.inl rfl)).set w.heap.size 1 _ (.inl rfl)
      have K5 : Blk V5 w.heap.size 27 #[.int .i64 (n0 : Int), .slice va j vc] := by rw [hV5]; exact (L5.out.r.set 0 _).set 1 _
      have q0 := K5.cell 0
      have q1 := K5.cell 1
      have hh := L5.out.h
      have RW : Rws V5 va LL := (L5.out.o.fr f5 (fun q hq e => by omega)).rws hR.out
      have FX := GOOD.out LL t va vc GG.out hD.out ⟨HE.out.symm, by rw [HLL.out]; omega⟩ V5 RW (L5.out.f.trans (f5.below (fun q e => by omega) L5.out.f.size))
      rw [HLL.out] at FX
      have HV5 := Lib.hid hV5
      clear f5 K5 RW hV5 GOOD BADE BADK BADX L5 hh
      go_wp2_with fail
      rw [← HV5.out]
      refine bodyPost_ret (by simp [results, Try.results21, go_sem, q0, q1]; try rfl) rfl ?_
      exact FX
    have jI : (j : Int) < (n1 : Int) := by omega
    have jB := decide_eq_true jI
    obtain ⟨n, t', hn⟩ : ∃ n t', pn t = (n, t') := ⟨_, _, rfl⟩
    have ln : n < 18446744073709551616 := by have := pn_lt t; rw [hn] at this; exact this
    have st' : t'.1.size ≤ 281474976710656 := by have := pn_le t; rw [hn] at this; exact Nat.le_trans this hts
    have NU := Lib.hid (fun V => rpn_any t hts V)
    rw [hn] at NU
    simp only at NU
    have DS := Lib.hid (dLd_succ hD.out hn)
    clear hn hts
    go_wp2_with fail
    refine (NU.out _).mono ?_
    rintro e w4 ⟨rfl, b4⟩
    obtain ⟨W4, hW4⟩ : ∃ W4, W4 = w4.alloc (.cells #[.string t'.1, .int .i64 t'.2] 75) := ⟨_, rfl⟩
    have b44 : Below w4.heap.size w4 W4 := by rw [hW4]; exact BN1 _ _
    have L4 := Lib.hid ((hS.out.next b4).next b44)
    have X4 : Bt.BoxAt W4 w4.heap.size t'.1 t'.2 := by rw [hW4]; exact Bt.box_new _ _ _
    obtain ⟨W5, hW5⟩ : ∃ W5, W5 = (W4.setCell ⟨b6, 0, none⟩ (.string t'.1)).setCell ⟨b6, 1, none⟩ (.int .i64 t'.2) := ⟨_, rfl⟩
    have L5 := Lib.hid (L4.out.tape t'.1 t'.2)
    rw [← hW5] at L5
    have x0 := X4.c0
    have x1 := X4.c1
    have z0 := L4.out.x.c0
    have z1 := L4.out.x.c1
    have f0 := L4.out.x.f 0
    have f1 := L4.out.x.f 1
    have HW4 := Lib.hid hW4
    have HW5 := Lib.hid hW5
    clear b4 b44 X4 hW4 hW5 L4 hS NU
    by_cases h16 : 16 < n
    · have hI16 : (16 : Int) < (n : Int) := by omega
      have hB16 := decide_eq_true hI16
      have DN : dLd (j + 1) t2 = none := by rw [DS.out, if_pos h16]
      obtain ⟨V5, hV5, y0, y1, b5⟩ := BADX.out _ L5.out.r L5.out.f
      have HV5 := Lib.hid hV5
      have r0 := (L5.out.r).cell 0
      have r1 := (L5.out.r).cell 1
      have e0 := (L5.out.r).free 0
      have e1 := (L5.out.r).free 1
      have FX := (BADK.out (j + 1) GG.out hjn DN) _ b5
      clear hV5 b5
      go_wp2_with (first | rw [← HW4.out] | rw [← HW5.out])
      rw [← HV5.out]
      refine bodyPost_ret (by simp [results, Try.results21, go_sem, y0, y1]; try rfl) rfl ?_
      exact FX
    have hI16 : ¬ (16 : Int) < (n : Int) := by omega
    have hB16 := decide_eq_false hI16
    have DS2 := Lib.hid (show dLd (j + 1) t2 = (dNs n t').bind (fun r => if mayB r.1 = true then some (LL ++ [r.1], r.2) else none) by rw [DS.out, if_neg h16])
    have wn : IntKind.i64.wrap (n : Int) = (n : Int) := by rw [IntKind.wrap_i64]; omega
    clear DS
    go_wp2_with (first | rw [← HW4.out] | rw [← HW5.out])
    clear x0 x1 f0 f1 HW4 HW5 z0 z1
    have P0 : Hid (OwnN W5 W5.heap.size (.slice none 0 0) []) := Lib.hid (World.ownsRow_nil _ _ _ _)
    have N0 : Hid (dNs 0 t' = some ([], t')) := Lib.hid rfl
    have F0 : Hid (Fr W5 W5 (fun q => q = b6)) := Lib.hid (Fr.refl _ _)
    have X0 := Lib.hid L5.out.x
    go_loopw [12, 13] (fun p k wr => ∃ (i : Nat) (xs : List Int) (tk : Tp) (pa : Option Addr) (pc : Nat), p = .slice pa i pc ∧ k = .int .i64 i ∧ i ≤ n ∧ Hid (dNs i t' = some (xs, tk)) ∧ Hid (OwnN wr W5.heap.size (.slice pa i pc) xs) ∧ Hid (Fr W5 wr (fun q => q = b6)) ∧ Hid (Bt.BoxAt wr b6 tk.1 tk.2)) (fun _ k _ => n - (intOf k).toNat)
    case atStart => exact ⟨0, [], t', none, 0, rfl, rfl, Nat.zero_le _, N0, P0, F0, X0⟩
    case round =>
      obtain ⟨i, xs, tk, pa, pc, rfl, rfl, hik, hN, hP, hF, hX⟩ := hrel
      clear P0 N0 F0 X0
      have z0 := hX.out.c0
      have z1 := hX.out.c1
      have HXL := Lib.hid (dNs_le hN.out).2
      by_cases hin : i < n
      rotate_left
      · obtain rfl : i = n := by omega
        have iI : ¬ (i : Int) < (i : Int) := by omega
        have LE := Lib.hid (L5.out.fr hF.out hX.out)
        have MAY := Lib.hid (fun V (b : Below wr.heap.size wr V) => may_own hP.out HXL.out b (by omega))
        have HU := Lib.hid (fun V (b : Below wr.heap.size wr V) => show OwnN V B (.slice pa i pc) xs from (hP.out.nx b).drop (w' := V) L5.out.g)
        have STK : tk.1.size ≤ 281474976710656 := Nat.le_trans (dNs_le hN.out).1 st'
        clear hP hF hX L5 z0 z1
        go_wp2_with fail
        refine (MAY.out _ (Below.refl _ _)).mono ?_
        rintro e w9 ⟨rfl, b9⟩
        have L9 := Lib.hid (LE.out.next b9)
        have U9 := Lib.hid (HU.out w9 b9)
        clear b9 LE HU MAY
        by_cases hm : mayB xs = true
        rotate_left
        · have hm2 : mayB xs = false := by simpa using hm
          have DN : dLd (j + 1) t2 = none := by
            rw [DS2.out, hN.out]
            show (if mayB xs = true then some (LL ++ [xs], tk) else none) = none
            rw [if_neg hm]
          obtain ⟨V5, hV5, y0, y1, b5⟩ := BADX.out _ L9.out.r L9.out.f
          have HV5 := Lib.hid hV5
          have r0 := (L9.out.r).cell 0
          have r1 := (L9.out.r).cell 1
          have e0 := (L9.out.r).free 0
          have e1 := (L9.out.r).free 1
          have FX := (BADK.out (j + 1) GG.out hjn DN) _ b5
          clear hV5 b5
          go_wp2_with fail
          rw [← HV5.out]
          refine bodyPost_ret (by simp [results, Try.results21, go_sem, y0, y1]; try rfl) rfl ?_
          exact FX
        have DP : Hid (dLd (j + 1) t2 = some (LL ++ [xs], tk)) := Lib.hid (by
          rw [DS2.out, hN.out]
          show (if mayB xs = true then some (LL ++ [xs], tk) else none) = _
          rw [if_pos hm])
        have RP : Hid ((ms ++ [((Value.slice pa i pc), xs)]).map (fun x : Mv => x.2) = LL ++ [xs]) := Lib.hid (by rw [List.map_append, hR.out]; rfl)
        have y1 : w9.cell? ⟨b8, 1, none⟩ = some (.slice va j vc) := L9.out.y.cell 1
        have OWR : Hid (w9.ownsRow B 29 1 (.slice va j vc) j (ms.map (·.1))) := Lib.hid (by have := L9.out.o.1; rw [HML.out] at this; exact this)
        have hj64 : j ≤ 64 := by omega
        have hb9 := L9.out.y.lt
        have hB9 : B ≤ w9.heap.size := L9.out.g
        clear BADE BADK GOOD BADX hN
        go_wp2_with (at_builtin; refine wpList_append_own _ rfl _ _ 25 rfl B 29 i29 (.slice none 0 0) 1 24 Try.underlying25 hi hz0 hz1 hz2 rfl (by decide) (.slice va j vc) j (ms.map (·.1)) rfl (OWR.out.alloc _) ⟨w9.heap.size, 0, none⟩ 1 1 [.slice pa i pc] rfl rfl news29 (by simp [Value.oneCell']) (by unfold maxLen; omega) (by omega) (by simp; omega) ?_; intro v' w10 hown hgrow _; obtain ⟨g', cap', rfl⟩ := ownsRow_succ hown; obtain ⟨r1, r2⟩ := L9.out.row (v' := .slice (some ⟨g', 0, none⟩) (j + 1) cap') U9.out (by rw [HML.out]; exact hown) hgrow; have d1 := r1.cell 1; have e1 := r1.free 1; have R2 := Lib.hid r2; clear r1 r2 hown hgrow)
        generalize w10.setCell ⟨b8, 1, none⟩ (.slice (some ⟨g', 0, none⟩) (j + 1) cap') = w11 at *
        clear d1 e1 y1 OWR L9 U9
        go_wp2_with fail
        go_roundw
        case rel => exact ⟨j + 1, tk, _, _, _, by go_num, by omega, STK, DP, RP, R2⟩
        case measure => simp [intOf]; omega
      have iI : (i : Int) < (n : Int) := by omega
      have iB := decide_eq_true iI
      obtain ⟨x, tx, hx⟩ : ∃ x tx, pn tk = (x, tx) := ⟨_, _, rfl⟩
      have lx : x < 18446744073709551616 := by have := pn_lt tk; rw [hx] at this; exact this
      have NU := Lib.hid (fun V => rpn_any tk (Nat.le_trans (dNs_le hN.out).1 st') V)
      rw [hx] at NU
      simp only at NU
      have NS := Lib.hid (dNs_succ hN.out hx)
      clear hx
      go_wp2_with fail
      refine (NU.out _).mono ?_
      rintro e w6 ⟨rfl, b6'⟩
      obtain ⟨W6, hW6⟩ : ∃ W6, W6 = w6.alloc (.cells #[.string tx.1, .int .i64 tx.2] 75) := ⟨_, rfl⟩
      have b66 : Below wr.heap.size wr W6 := b6'.trans ((BN1 w6 _).mono b6'.size |> fun h => by rw [hW6]; exact h)
      have X6 : Bt.BoxAt W6 w6.heap.size tx.1 tx.2 := by rw [hW6]; exact Bt.box_new _ _ _
      have XB := hX.out.next b66
      obtain ⟨W7, hW7⟩ : ∃ W7, W7 = (W6.setCell ⟨b6, 0, none⟩ (.string tx.1)).setCell ⟨b6, 1, none⟩ (.int .i64 tx.2) := ⟨_, rfl⟩
      have X7 : Hid (Bt.BoxAt W7 b6 tx.1 tx.2) := Lib.hid (by rw [hW7]; exact XB.set)
      have f67 : Fr wr W7 (fun q => q = b6) := by rw [hW7]; exact ((Fr.of_below b66 (fun q => q = b6)).set b6 0 _ (.inl rfl)).set b6 1 _ (.inl rfl)
      have F7 := Lib.hid (hF.out.on f67)
      have hW57 : W5.heap.size ≤ W7.heap.size := F7.out.size
      have HB6 : Hid (b6 < W5.heap.size) := Lib.hid L5.out.x.lt
      have P7 : Hid (W7.ownsRow W5.heap.size 3 1 (.slice pa i pc) i (xs.map (Value.int .i64))) := Lib.hid (by
        have := hP.out.fr f67 (fun q hq e => by have := (own_ty hP.out q hq).1; have := HB6.out; omega)
        unfold OwnN at this
        rw [HXL.out] at this
        exact this)
      have x0 := X6.c0
      have x1 := X6.c1
      have z0 := XB.c0
      have z1 := XB.c1
      have f0 := XB.f 0
      have f1 := XB.f 1
      have HW6 := Lib.hid hW6
      have HW7 := Lib.hid hW7
      clear b6' b66 X6 XB hW6 hW7 f67 hP hF hX NU
      by_cases hb : 549755813888 < x
      · have hbI : (549755813888 : Int) < (x : Int) := by omega
        have hbB := decide_eq_true hbI
        have DN : dLd (j + 1) t2 = none := by
          rw [DS2.out, dNs_none (show dNs (i + 1) t' = none by rw [NS.out, if_pos hb]) (by omega)]
          rfl
        have LX := Lib.hid (L5.out.fr F7.out X7.out)
        obtain ⟨V5, hV5, y0, y1, b5⟩ := BADX.out _ LX.out.r LX.out.f
        have HV5 := Lib.hid hV5
        have r0 := (LX.out.r).cell 0
        have r1 := (LX.out.r).cell 1
        have e0 := (LX.out.r).free 0
        have e1 := (LX.out.r).free 1
        have FX := (BADK.out (j + 1) GG.out hjn DN) _ b5
        clear hV5 b5
        go_wp2_with (first | rw [← HW6.out] | rw [← HW7.out])
        rw [← HV5.out]
        refine bodyPost_ret (by simp [results, Try.results21, go_sem, y0, y1]; try rfl) rfl ?_
        exact FX
      have hbI : ¬ (549755813888 : Int) < (x : Int) := by omega
      have hbB := decide_eq_false hbI
      have wx : IntKind.i64.wrap (x : Int) = (x : Int) := by rw [IntKind.wrap_i64]; omega
      have NP : Hid (dNs (i + 1) t' = some (xs ++ [(x : Int)], tx)) := Lib.hid (by rw [NS.out, if_neg hb])
      clear BADE BADK GOOD BADX NS hN
      go_wp2_with (first | rw [← HW6.out] | rw [← HW7.out] | (at_builtin; refine wpList_append_own _ rfl _ _ 29 rfl W5.heap.size 3 i3 _ 1 8 Try.underlying29 hi3 hz30 hz31 hz32 rfl (by decide) (.slice pa i pc) i (xs.map (Value.int .i64)) rfl (P7.out.alloc _) ⟨W7.heap.size, 0, none⟩ 1 1 [.int .i64 (x : Int)] rfl rfl (news_int W7 (x : Int)) (one_int (x : Int)) (by unfold maxLen; omega) (by omega) (by simp; omega) ?_; intro v' w8 hown hgrow _; obtain ⟨g', cap', rfl⟩ := ownsRow_succ hown; obtain ⟨r1, r2, r3⟩ := inn_step F7.out X7.out HB6.out HXL.out P7.out hown hgrow; have R1 := Lib.hid r1; have R2 := Lib.hid r2; have R3 := Lib.hid r3; clear r1 r2 r3 hown hgrow))
      clear x0 x1 z0 z1 f0 f1 HW6 HW7 F7 X7 P7
      go_roundw
      case rel => exact ⟨i + 1, _, _, _, _, rfl, by go_num, by omega, NP, R1, R2, R3⟩
      case measure => simp [intOf]; omega
end Go.Proofs.Ytlcgicgdlhnfoaa
