/-
  BookReads as a walk.
-/
import Derived.Test.YtlcgicgdlhnfoaaBmi
import Derived.Test.YtlcgicgdlhnfoaaBop
namespace Go.Proofs.Ytlcgicgdlhnfoaa
open Go.RowKit
theorem sub_row {base x y : Int} {n : Nat} (hb : base ≤ x) (hy : 0 ≤ y) : ∃ m : Nat, sub base (rowI base n) x y = rowI x m ∧ (m : Int) ≤ y ∧ m ≤ n ∧ ((m : Int) < y → base + (n : Int) ≤ x + (m : Int)) ∧ (0 < m → x + (m : Int) ≤ base + (n : Int)) := by
  unfold sub
  obtain ⟨k, rfl⟩ : ∃ k : Nat, x = base + (k : Int) := ⟨(x - base).toNat, by omega⟩
  rw [show (base + (k : Int) - base).toNat = k by omega, rowI_drop, rowI_take]
  refine ⟨_, rfl, ?_, ?_, ?_, ?_⟩
  · have := Nat.min_le_left y.toNat (n - k); omega
  · have := Nat.min_le_right y.toNat (n - k); omega
  · intro h
    have : min y.toNat (n - k) = n - k := by
      rcases Nat.le_total y.toNat (n - k) with h2 | h2
      · rw [Nat.min_eq_left h2] at h; omega
      · exact Nat.min_eq_right h2
    rw [this]; omega
  · intro h
    have := Nat.min_le_right y.toNat (n - k)
    omega
theorem fg_row {base b : Int} {n : Nat} : ∃ base' n', fgS base (rowI base n) b = (base', rowI base' n') ∧ base ≤ base' ∧ base' + (n' : Int) = base + (n : Int) ∧ n' ≤ n := by
  unfold fgS
  rw [rowI_len]
  by_cases h : b < 0 ∨ base + (n : Int) < b ∨ b ≤ base
  · rw [if_pos h]; exact ⟨base, n, rfl, Int.le_refl _, rfl, Nat.le_refl _⟩
  · rw [if_neg h, rowI_drop]
    exact ⟨b, n - (b - base).toNat, by rw [show base + ((b - base).toNat : Int) = b by omega], by omega, by omega, by omega⟩
/-- what is read, cell by cell -/
theorem read_cells {w : World} {B : Nat} {v : Value} {ms : List Mv} {x : Int} {m : Nat} (h : OwnM w B v ms) (e : ms.map (fun z : Mv => z.2) = rowI x m) : ∃ a c, v = .slice a m c ∧ ∀ k, k < m → ∃ g g2 c2, a = some ⟨g, 0, none⟩ ∧ w.cell? ⟨g, k, none⟩ = some (.slice (some g2) 1 c2) ∧ w.cell? g2 = some (.int .i64 (x + (k : Int))) := by
  have hl : ms.length = m := by
    have := congrArg List.length e
    rw [List.length_map, rowI_len] at this
    exact this
  obtain ⟨a, c, rfl⟩ := h.form
  refine ⟨a, c, by rw [hl], fun k hk => ?_⟩
  obtain ⟨g, c1, g2, c2, e1, hg, ck, nn⟩ := h.at_ (k := k) (by omega)
  have e2 : ms[k].2 = [x + (k : Int)] := by
    have : (ms.map (fun z : Mv => z.2))[k]? = (rowI x m)[k]? := by rw [e]
    rw [List.getElem?_map, List.getElem?_eq_getElem (by omega), List.getElem?_eq_getElem (by rw [rowI_len]; exact hk), rowI_get] at this
    exact Option.some.inj this
  rw [e2] at ck nn
  obtain ⟨g3, o3, e3, hg3, ck3⟩ := nn 0 (by simp)
  subst e3
  simp only [Value.slice.injEq] at e1
  exact ⟨g, _, c2, e1.1, ck, ck3⟩
/-- the reading's answers, as the law wants them -/
theorem mine_read {w0 w : World} {B t n : Nat} {base x y : Int} (h : Mine w0 B t base (rowI base n) w) (hx0 : 0 ≤ x) (hx : x ≤ 9223372036854775807) (hxb : base ≤ x) (hy : 0 ≤ y) :
    Calls Try.prog 13 #[.pointer (some ⟨t, 0, none⟩), .int .i64 x, .int .i64 y] w fun e w' => ∃ a m c, e = .returned (.tuple #[.slice a m c, .int .i64 (x + (m : Int)), .int .i64 0]) ∧ (m : Int) ≤ y ∧ m ≤ n ∧ ((m : Int) < y → base + (n : Int) ≤ x + (m : Int)) ∧ (0 < m → x + (m : Int) ≤ base + (n : Int)) ∧
      (∀ k, k < m → ∃ g g2 c2, a = some ⟨g, 0, none⟩ ∧ w'.cell? ⟨g, k, none⟩ = some (.slice (some g2) 1 c2) ∧ w'.cell? g2 = some (.int .i64 (x + (k : Int)))) ∧ Mine w0 B t base (rowI base n) w' := by
  refine (h.read x y hx).mono ?_
  rintro e w' ⟨hr, hm⟩
  obtain ⟨v, ms, rfl, hms, ho, -⟩ := rdd_ok hr hx0 hy hxb
  obtain ⟨m, e1, h1, h2, h3, h4⟩ := sub_row (n := n) hxb hy
  rw [e1] at hms ⊢
  obtain ⟨a, c, rfl, hk⟩ := read_cells ho hms
  rw [rowI_len]
  exact ⟨a, m, c, rfl, h1, h2, h3, h4, hk, hm⟩
set_option maxHeartbeats 16000000 in
set_option maxRecDepth 100000 in
theorem reads_law (s0 : Option Addr) (c0 : Nat) (L : List Ac) (f0 : Int) (w : World) (hl : L.length ≤ 9223372036854775807) (hA : Acs w s0 L) (hf : f0 ≤ 9223372036854775807) :
    Calls Try.prog 5 #[.slice s0 L.length c0, .int .i64 f0] w fun e w' => e = .returned (.bool true) ∧ Below w.heap.size w w' := by
  have N := Lib.hid (mine_new (Below.refl w.heap.size w) (Nat.le_refl _))
  have AW := Lib.hid awake_any
  by_cases hneg : f0 < 0
  · have hnB := decide_eq_true hneg
    have NB := Lib.hid (fun w' (h : Mine w w.heap.size w.heap.size 0 [] w') => h.bel)
    generalize w.heap.size = t at *
    go_enter Try.func5, Try.ntmps5
    go_wp2_with fail
    refine N.out.mono ?_
    rintro e w1 ⟨rfl, m1⟩
    have M1 := Lib.hid m1
    clear m1
    go_wp2_with fail
    refine (AW.out _).mono ?_
    rintro e w2 ⟨rfl, b2⟩
    have M2 := Lib.hid (M1.out.next b2)
    clear b2 M1
    go_wp2_with fail
    refine (AW.out _).mono ?_
    rintro e w3 ⟨rfl, b3⟩
    have M3 := Lib.hid (M2.out.next b3)
    clear b3 M2
    go_wp2_with fail
    go_ret
    exact ⟨rfl, NB.out _ M3.out⟩
  have hnB := decide_eq_false hneg
  have ARG := Lib.hid (fun (i : Nat) (hi : i < L.length) W (h : Below w.heap.size w W) => show ∃ g o, s0 = some ⟨g, o, none⟩ ∧ W.cell? ⟨g, o + i * 4, none⟩ = some (.int .i64 L[i].k) ∧ W.cell? ⟨g, o + i * 4 + 1, none⟩ = some (.int .i64 L[i].a) ∧ W.cell? ⟨g, o + i * 4 + 2, none⟩ = some (.int .i64 L[i].b) ∧ L[i].okA from by
    obtain ⟨g, o, q, c, e, hg, k0, k1, k2, k3, nn, ok⟩ := hA i hi
    exact ⟨g, o, e, (h.cell (p := ⟨g, _, none⟩) hg).trans k0, (h.cell (p := ⟨g, _, none⟩) hg).trans k1, (h.cell (p := ⟨g, _, none⟩) hg).trans k2, ok⟩)
  have NB := Lib.hid (fun (base : Int) LL w' (h : Mine w w.heap.size w.heap.size base LL w') => h.bel)
  have NX := Lib.hid (fun (base : Int) LL W W' (h : Mine w w.heap.size w.heap.size base LL W) (b : Below W.heap.size W W') => h.next b)
  have PUT : Hid (∀ W (base : Int) (n : Nat) (cm : Int), cm = base + (n : Int) → 0 ≤ base → n ≤ 64 → cm < 549755813888 → Mine w w.heap.size w.heap.size base (rowI base n) W → Calls Try.prog 11 #[.pointer (some ⟨w.heap.size, 0, none⟩), .agg #[.slice (some ⟨W.heap.size, 0, none⟩) 1 1]] (W.alloc (.cells #[.int .i64 cm] 3)) fun e w' => e = .returned (.int .i64 0) ∧ ∃ (base' : Int) (n' : Nat), 0 ≤ base' ∧ n' ≤ 64 ∧ base' + (n' : Int) = cm + 1 ∧ Mine w w.heap.size w.heap.size base' (rowI base' n') w') := Lib.hid fun W base n cm hc h0 hn hm h => by
    have h2 := (h.next (BN1 W (.cells #[.int .i64 cm] 3))).put 1 (nums_one W cm) (by simp)
    subst hc
    have e := pt_row (base := base) (n := n) h0 hn hm
    rw [e.1, e.2] at h2
    refine h2.mono ?_
    rintro r w' ⟨rfl, hm2⟩
    by_cases h64 : n = 64
    · rw [if_pos h64] at hm2
      exact ⟨rfl, base + 1, 64, by omega, by omega, by omega, hm2⟩
    · rw [if_neg h64] at hm2
      exact ⟨rfl, base, n + 1, h0, by omega, by omega, hm2⟩
  have FGT : Hid (∀ W (base : Int) (n : Nat) (b : Int), 0 ≤ base → n ≤ 64 → Mine w w.heap.size w.heap.size base (rowI base n) W → Calls Try.prog 17 #[.pointer (some ⟨w.heap.size, 0, none⟩), .int .i64 b] W fun e w' => ∃ (r : Int) (base' : Int) (n' : Nat), e = .returned (.int .i64 r) ∧ 0 ≤ base' ∧ n' ≤ 64 ∧ base' + (n' : Int) = base + (n : Int) ∧ Mine w w.heap.size w.heap.size base' (rowI base' n') w') := Lib.hid fun W base n b h0 hn h => by
    refine (h.forget b).mono ?_
    rintro r w' ⟨rfl, hm⟩
    obtain ⟨base', n', e, h1, h2, h3⟩ := fg_row (base := base) (b := b) (n := n)
    rw [e] at hm
    exact ⟨_, base', n', rfl, by omega, by omega, h2, hm⟩
  have RDX := Lib.hid (fun W (base x y : Int) (n : Nat) (h : Mine w w.heap.size w.heap.size base (rowI base n) W) => mine_read (x := x) (y := y) h)
  have RDG : Hid (∀ W (base x y : Int) LL, 0 ≤ x → 0 ≤ y → x < base → x ≤ 9223372036854775807 → Mine w w.heap.size w.heap.size base LL W → Calls Try.prog 13 #[.pointer (some ⟨w.heap.size, 0, none⟩), .int .i64 x, .int .i64 y] W fun e w' => e = .returned (.tuple #[.slice none 0 0, .int .i64 base, .int .i64 180]) ∧ Mine w w.heap.size w.heap.size base LL w') := Lib.hid fun W base x y LL hx hy hb hx2 h => by
    refine (h.read x y hx2).mono ?_
    rintro e w' ⟨hr, hm⟩
    exact ⟨(rdd_gone hr hx hy hb).1, hm⟩
  have RDB : Hid (∀ W (base x y : Int) LL, y < 0 → x ≤ 9223372036854775807 → Mine w w.heap.size w.heap.size base LL W → Calls Try.prog 13 #[.pointer (some ⟨w.heap.size, 0, none⟩), .int .i64 x, .int .i64 y] W fun e w' => e = .returned (.tuple #[.slice none 0 0, .int .i64 0, .int .i64 1]) ∧ Mine w w.heap.size w.heap.size base LL w') := Lib.hid fun W base x y LL hy hx2 h => by
    refine (h.read x y hx2).mono ?_
    rintro e w' ⟨hr, hm⟩
    exact ⟨(rdd_bad hr (.inr hy)).1, hm⟩
  have BS := Lib.hid (fun W (base : Int) LL (h : Mine w w.heap.size w.heap.size base LL W) => h.bs)
  have EN := Lib.hid (fun W (base : Int) (n : Nat) (h : Mine w w.heap.size w.heap.size base (rowI base n) W) => h.end_)
  have RL := rowI_len
  simp only [RL] at EN
  clear RL hA
  generalize w.heap.size = t at *
  generalize hM : Mine w t t = M at *
  clear hM
  have hlI : (L.length : Int) ≤ 9223372036854775807 := by omega
  go_enter Try.func5, Try.ntmps5
  go_wp2_with fail
  refine N.out.mono ?_
  rintro e w1 ⟨rfl, m1⟩
  have M1 := Lib.hid m1
  clear m1 N
  go_wp2_with fail
  refine (AW.out _).mono ?_
  rintro e w2 ⟨rfl, b2⟩
  have M2 := Lib.hid (NX.out _ _ _ _ M1.out b2)
  clear b2 M1 AW
  go_wp2_with fail
  go_loopw [6, 7, 8] (fun a c i wr => ∃ (x cm base : Int) (j n : Nat), a = .int .i64 x ∧ c = .int .i64 cm ∧ i = .int .i64 j ∧ j ≤ L.length ∧ j ≤ 200 ∧ 0 ≤ x ∧ x ≤ 9223372036854775807 ∧ 0 ≤ base ∧ n ≤ 64 ∧ cm ≤ j ∧ Hid (base + (n : Int) = cm) ∧ Hid (M base (rowI base n) wr)) (fun _ _ i _ => L.length - (intOf i).toNat)
  case atStart => exact ⟨f0, 0, 0, 0, 0, rfl, rfl, rfl, Nat.zero_le _, by decide, by omega, hf, by decide, by decide, by decide, Lib.hid rfl, M2⟩
  case round =>
    obtain ⟨x, cm, base, j, n, rfl, rfl, rfl, hj, hj2, hx0, hx, hb0, hn, hcm, hE, hMw⟩ := hrel
    clear M2
    by_cases hjl : j < L.length
    rotate_left
    · have hjI : ¬ (j : Int) < (L.length : Int) := by omega
      have hjB := decide_eq_false hjI
      have HE := Lib.hid (EN.out _ _ _ hMw.out)
      have n0 : ¬ (base + (n : Int) ≠ cm) := fun h => h hE.out
      clear PUT FGT RDX RDG RDB ARG
      go_wp2_with fail
      refine HE.out.mono ?_
      rintro e w3 ⟨rfl, m3⟩
      have M3 := Lib.hid m3
      have HE3 := Lib.hid (EN.out _ _ _ m3)
      have hE2 := hE.out
      clear m3 HE hMw hE
      rw [hE2] at HE3 ⊢
      go_wp2_with fail
      refine HE3.out.mono ?_
      rintro e w4 ⟨rfl, m4⟩
      have HB4 := Lib.hid (BS.out _ _ _ m4)
      have B4 := Lib.hid (NB.out _ _ _ m4)
      have hd : cm - base ≤ 64 := by omega
      have hw0 : IntKind.i64.wrap (cm - base) = cm - base := by rw [IntKind.wrap_i64]; omega
      clear m4 HE3 M3
      go_wp2_with fail
      refine HB4.out.mono ?_
      rintro e w5 ⟨rfl, rfl⟩
      go_wp2_with fail
      go_ret
      exact ⟨rfl, B4.out⟩
    have hjI : (j : Int) < (L.length : Int) := by omega
    have hjB := decide_eq_true hjI
    by_cases hj200 : j < 200
    rotate_left
    · have hkI : ¬ (j : Int) < 200 := by omega
      have hkB := decide_eq_false hkI
      have HE := Lib.hid (EN.out _ _ _ hMw.out)
      clear PUT FGT RDX RDG RDB ARG
      go_wp2_with fail
      refine HE.out.mono ?_
      rintro e w3 ⟨rfl, m3⟩
      have M3 := Lib.hid m3
      have HE3 := Lib.hid (EN.out _ _ _ m3)
      have hE2 := hE.out
      clear m3 HE hMw hE
      rw [hE2] at HE3 ⊢
      go_wp2_with fail
      refine HE3.out.mono ?_
      rintro e w4 ⟨rfl, m4⟩
      have HB4 := Lib.hid (BS.out _ _ _ m4)
      have B4 := Lib.hid (NB.out _ _ _ m4)
      have hd : cm - base ≤ 64 := by omega
      have hw0 : IntKind.i64.wrap (cm - base) = cm - base := by rw [IntKind.wrap_i64]; omega
      clear m4 HE3 M3
      go_wp2_with fail
      refine HB4.out.mono ?_
      rintro e w5 ⟨rfl, rfl⟩
      go_wp2_with fail
      go_ret
      exact ⟨rfl, B4.out⟩
    have hkI : (j : Int) < 200 := by omega
    have hkB := decide_eq_true hkI
    obtain ⟨g, o, rfl, k0, k1, k2, okA⟩ := ARG.out j hjl wr (NB.out _ _ _ hMw.out)
    have ARG2 := Lib.hid (fun W h => (ARG.out j hjl W h))
    have OK := Lib.hid okA
    clear ARG okA
    generalize L[j] = X at *
    obtain ⟨xk, xa, xb, xp⟩ := X
    simp only at k0 k1 k2 ARG2 OK
    have AT : Hid (∀ W, Below t w W → W.cell? ⟨g, o + j * 4 + 2, none⟩ = some (.int .i64 xb)) := Lib.hid fun W h => by
      obtain ⟨g', o', e1, -, -, h2, -⟩ := ARG2.out W h
      simp only [Option.some.injEq, Addr.mk.injEq, and_true] at e1
      obtain ⟨rfl, rfl⟩ := e1
      exact h2
    clear ARG2
    by_cases hk0 : xk = 0
    · subst hk0
      have HP := Lib.hid (PUT.out wr base n cm hE.out.symm hb0 hn (by omega) hMw.out)
      have hcm0 : 0 ≤ cm := by have := hE.out; omega
      obtain ⟨cq, hcq0⟩ : ∃ cq, cq = cm + 1 := ⟨_, rfl⟩
      have hcw : IntKind.i64.wrap (cm + 1) = cq := by rw [IntKind.wrap_i64]; omega
      have HQ := Lib.hid hcq0
      have hcq : cq ≤ ((j + 1 : Nat) : Int) := by omega
      clear PUT FGT hMw hE hcq0
      go_wp2_with fail
      refine HP.out.mono ?_
      rintro e w6 ⟨rfl, base', n', hb0', hn', hE6, m6⟩
      have hE' : Hid (base' + (n' : Int) = cq) := Lib.hid (by have := HQ.out; omega)
      have MQ := Lib.hid m6
      clear m6 HP hE6 k0 k1 k2
      -- from the reading on: the world wq, came cq, the book (base', n')
      by_cases hB : xb < 0
      · have hBB := decide_eq_true hB
        have c2 := AT.out _ (NB.out _ _ _ MQ.out)
        have HR := Lib.hid (RDB.out _ base' x xb _ hB hx MQ.out)
        clear MQ RDX RDG RDB EN BS
        go_wp2_with fail
        refine HR.out.mono ?_
        rintro e w7 ⟨rfl, m7⟩
        have M7 := Lib.hid m7
        have c7 := AT.out _ (NB.out _ _ _ m7)
        clear m7 HR c2
        go_wp2_with fail
        go_roundw
        case rel => exact ⟨x, cq, base', j + 1, n', rfl, rfl, by go_num, by omega, by omega, hx0, hx, hb0', hn', hcq, hE', M7⟩
        case measure => simp [intOf]; omega
      have hBB := decide_eq_false hB
      by_cases hG : x < base'
      · have c2 := AT.out _ (NB.out _ _ _ MQ.out)
        have HR := Lib.hid (RDG.out _ base' x xb _ hx0 (by omega) hG hx MQ.out)
        have hE2 := hE'.out
        have hG1 : ¬ base' ≤ x := by omega
        have hG2 : ¬ cq < base' := by omega
        have hbm : base' ≤ 9223372036854775807 := by omega
        clear MQ RDX RDG RDB EN
        go_wp2_with fail
        refine HR.out.mono ?_
        rintro e w7 ⟨rfl, m7⟩
        have HB7 := Lib.hid (BS.out _ _ _ m7)
        have M7 := Lib.hid m7
        have c7 := AT.out _ (NB.out _ _ _ m7)
        clear m7 HR c2 BS
        go_wp2_with fail
        refine HB7.out.mono ?_
        rintro e w8 ⟨rfl, rfl⟩
        go_wp2_with fail
        go_roundw
        case rel => exact ⟨base', cq, base', j + 1, n', rfl, rfl, by go_num, by omega, by omega, hb0', hbm, hb0', hn', hcq, hE', M7⟩
        case measure => simp [intOf]; omega
      have c2 := AT.out _ (NB.out _ _ _ MQ.out)
      have HR := Lib.hid (RDX.out _ base' x xb n' MQ.out hx0 hx (by omega) (by omega))
      clear MQ RDX RDG RDB EN BS
      go_wp2_with fail
      refine HR.out.mono ?_
      rintro e w7 ⟨av, m, cv, rfl, q1, q2, q3, q4, ROW, m7⟩
      have hE2 := hE'.out
      have hxm : x + (m : Int) ≤ 9223372036854775807 := by
          rcases Nat.eq_zero_or_pos m with h0 | h0
          · omega
          · have := q4 h0; omega
      have c7 := AT.out _ (NB.out _ _ _ m7)
      have M7 := Lib.hid m7
      have RW := Lib.hid ROW
      have Q3 := Lib.hid q3
      have hmb : ¬ xb < (m : Int) := by omega
      have hwm : IntKind.i64.wrap (x + (m : Int)) = x + (m : Int) := by rw [IntKind.wrap_i64]; omega
      have hm64 : m ≤ 64 := by omega
      clear m7 ROW q3 q4 HR c2
      by_cases hmx : (m : Int) < xb
      · have hq : ¬ x + (m : Int) < cq := by have := Q3.out hmx; omega
        have hmxB := decide_eq_true hmx
        have hqB := decide_eq_false hq
        go_wp2_with fail
        go_loopw [12] (fun kk wr2 => ∃ k : Nat, kk = .int .i64 k ∧ k ≤ m ∧ wr2 = w7) (fun kk _ => m - (intOf kk).toNat)
        case atStart => exact ⟨0, rfl, Nat.zero_le _, rfl⟩
        case round =>
          obtain ⟨k, rfl, hk, rfl⟩ := hrel
          by_cases hkm : k < m
          · obtain ⟨g1, ⟨g2, o2, l2⟩, c2, rfl, d1, d2⟩ := RW.out k hkm
            have hkmI : (k : Int) < (m : Int) := by omega
            have hwk : IntKind.i64.wrap (x + (k : Int)) = x + (k : Int) := by rw [IntKind.wrap_i64]; omega
            clear RW Q3 M7
            go_wp2_with fail
            go_roundw
            case rel => exact ⟨k + 1, by go_num, by omega, by trivial⟩
            case measure => simp [intOf]; omega
          · obtain rfl : k = m := by omega
            have hkmI : ¬ (k : Int) < (k : Int) := by omega
            clear RW Q3
            go_wp2_with fail
            go_roundw
            case rel => exact ⟨x + (k : Int), cq, base', j + 1, n', rfl, rfl, by go_num, by omega, by omega, by omega, hxm, hb0', hn', hcq, hE', M7⟩
            case measure => simp [intOf]; omega
      · have hmxB := decide_eq_false hmx
        go_wp2_with fail
        go_loopw [12] (fun kk wr2 => ∃ k : Nat, kk = .int .i64 k ∧ k ≤ m ∧ wr2 = w7) (fun kk _ => m - (intOf kk).toNat)
        case atStart => exact ⟨0, rfl, Nat.zero_le _, rfl⟩
        case round =>
          obtain ⟨k, rfl, hk, rfl⟩ := hrel
          by_cases hkm : k < m
          · obtain ⟨g1, ⟨g2, o2, l2⟩, c2, rfl, d1, d2⟩ := RW.out k hkm
            have hkmI : (k : Int) < (m : Int) := by omega
            have hwk : IntKind.i64.wrap (x + (k : Int)) = x + (k : Int) := by rw [IntKind.wrap_i64]; omega
            clear RW Q3 M7
            go_wp2_with fail
            go_roundw
            case rel => exact ⟨k + 1, by go_num, by omega, by trivial⟩
            case measure => simp [intOf]; omega
          · obtain rfl : k = m := by omega
            have hkmI : ¬ (k : Int) < (k : Int) := by omega
            clear RW Q3
            go_wp2_with fail
            go_roundw
            case rel => exact ⟨x + (k : Int), cq, base', j + 1, n', rfl, rfl, by go_num, by omega, by omega, by omega, hxm, hb0', hn', hcq, hE', M7⟩
            case measure => simp [intOf]; omega
    have hk0B := decide_eq_false hk0
    by_cases hk2 : xk = 2
    · subst hk2
      have HF := Lib.hid (FGT.out wr base n xa hb0 hn hMw.out)
      clear PUT FGT hMw
      go_wp2_with fail
      refine HF.out.mono ?_
      rintro e w6 ⟨r6, base', n', rfl, hb0', hn', hE6, m6⟩
      obtain ⟨cq, hcq0⟩ : ∃ cq, cq = cm := ⟨_, rfl⟩
      have hE' : Hid (base' + (n' : Int) = cq) := Lib.hid (by have := hE.out; omega)
      have hcq : cq ≤ ((j + 1 : Nat) : Int) := by omega
      have MQ := Lib.hid m6
      clear m6 HF hE6 hE
      subst hcq0
      -- from the reading on: the world wq, came cq, the book (base', n')
      by_cases hB : xb < 0
      · have hBB := decide_eq_true hB
        have c2 := AT.out _ (NB.out _ _ _ MQ.out)
        have HR := Lib.hid (RDB.out _ base' x xb _ hB hx MQ.out)
        clear MQ RDX RDG RDB EN BS
        go_wp2_with fail
        refine HR.out.mono ?_
        rintro e w7 ⟨rfl, m7⟩
        have M7 := Lib.hid m7
        have c7 := AT.out _ (NB.out _ _ _ m7)
        clear m7 HR c2
        go_wp2_with fail
        go_roundw
        case rel => exact ⟨x, cq, base', j + 1, n', rfl, rfl, by go_num, by omega, by omega, hx0, hx, hb0', hn', hcq, hE', M7⟩
        case measure => simp [intOf]; omega
      have hBB := decide_eq_false hB
      by_cases hG : x < base'
      · have c2 := AT.out _ (NB.out _ _ _ MQ.out)
        have HR := Lib.hid (RDG.out _ base' x xb _ hx0 (by omega) hG hx MQ.out)
        have hE2 := hE'.out
        have hG1 : ¬ base' ≤ x := by omega
        have hG2 : ¬ cq < base' := by omega
        have hbm : base' ≤ 9223372036854775807 := by omega
        clear MQ RDX RDG RDB EN
        go_wp2_with fail
        refine HR.out.mono ?_
        rintro e w7 ⟨rfl, m7⟩
        have HB7 := Lib.hid (BS.out _ _ _ m7)
        have M7 := Lib.hid m7
        have c7 := AT.out _ (NB.out _ _ _ m7)
        clear m7 HR c2 BS
        go_wp2_with fail
        refine HB7.out.mono ?_
        rintro e w8 ⟨rfl, rfl⟩
        go_wp2_with fail
        go_roundw
        case rel => exact ⟨base', cq, base', j + 1, n', rfl, rfl, by go_num, by omega, by omega, hb0', hbm, hb0', hn', hcq, hE', M7⟩
        case measure => simp [intOf]; omega
      have c2 := AT.out _ (NB.out _ _ _ MQ.out)
      have HR := Lib.hid (RDX.out _ base' x xb n' MQ.out hx0 hx (by omega) (by omega))
      clear MQ RDX RDG RDB EN BS
      go_wp2_with fail
      refine HR.out.mono ?_
      rintro e w7 ⟨av, m, cv, rfl, q1, q2, q3, q4, ROW, m7⟩
      have hE2 := hE'.out
      have hxm : x + (m : Int) ≤ 9223372036854775807 := by
          rcases Nat.eq_zero_or_pos m with h0 | h0
          · omega
          · have := q4 h0; omega
      have c7 := AT.out _ (NB.out _ _ _ m7)
      have M7 := Lib.hid m7
      have RW := Lib.hid ROW
      have Q3 := Lib.hid q3
      have hmb : ¬ xb < (m : Int) := by omega
      have hwm : IntKind.i64.wrap (x + (m : Int)) = x + (m : Int) := by rw [IntKind.wrap_i64]; omega
      have hm64 : m ≤ 64 := by omega
      clear m7 ROW q3 q4 HR c2
      by_cases hmx : (m : Int) < xb
      · have hq : ¬ x + (m : Int) < cq := by have := Q3.out hmx; omega
        have hmxB := decide_eq_true hmx
        have hqB := decide_eq_false hq
        go_wp2_with fail
        go_loopw [12] (fun kk wr2 => ∃ k : Nat, kk = .int .i64 k ∧ k ≤ m ∧ wr2 = w7) (fun kk _ => m - (intOf kk).toNat)
        case atStart => exact ⟨0, rfl, Nat.zero_le _, rfl⟩
        case round =>
          obtain ⟨k, rfl, hk, rfl⟩ := hrel
          by_cases hkm : k < m
          · obtain ⟨g1, ⟨g2, o2, l2⟩, c2, rfl, d1, d2⟩ := RW.out k hkm
            have hkmI : (k : Int) < (m : Int) := by omega
            have hwk : IntKind.i64.wrap (x + (k : Int)) = x + (k : Int) := by rw [IntKind.wrap_i64]; omega
            clear RW Q3 M7
            go_wp2_with fail
            go_roundw
            case rel => exact ⟨k + 1, by go_num, by omega, by trivial⟩
            case measure => simp [intOf]; omega
          · obtain rfl : k = m := by omega
            have hkmI : ¬ (k : Int) < (k : Int) := by omega
            clear RW Q3
            go_wp2_with fail
            go_roundw
            case rel => exact ⟨x + (k : Int), cq, base', j + 1, n', rfl, rfl, by go_num, by omega, by omega, by omega, hxm, hb0', hn', hcq, hE', M7⟩
            case measure => simp [intOf]; omega
      · have hmxB := decide_eq_false hmx
        go_wp2_with fail
        go_loopw [12] (fun kk wr2 => ∃ k : Nat, kk = .int .i64 k ∧ k ≤ m ∧ wr2 = w7) (fun kk _ => m - (intOf kk).toNat)
        case atStart => exact ⟨0, rfl, Nat.zero_le _, rfl⟩
        case round =>
          obtain ⟨k, rfl, hk, rfl⟩ := hrel
          by_cases hkm : k < m
          · obtain ⟨g1, ⟨g2, o2, l2⟩, c2, rfl, d1, d2⟩ := RW.out k hkm
            have hkmI : (k : Int) < (m : Int) := by omega
            have hwk : IntKind.i64.wrap (x + (k : Int)) = x + (k : Int) := by rw [IntKind.wrap_i64]; omega
            clear RW Q3 M7
            go_wp2_with fail
            go_roundw
            case rel => exact ⟨k + 1, by go_num, by omega, by trivial⟩
            case measure => simp [intOf]; omega
          · obtain rfl : k = m := by omega
            have hkmI : ¬ (k : Int) < (k : Int) := by omega
            clear RW Q3
            go_wp2_with fail
            go_roundw
            case rel => exact ⟨x + (k : Int), cq, base', j + 1, n', rfl, rfl, by go_num, by omega, by omega, by omega, hxm, hb0', hn', hcq, hE', M7⟩
            case measure => simp [intOf]; omega
    have hk2B := decide_eq_false hk2
    obtain ⟨cq, hcq0⟩ : ∃ cq, cq = cm := ⟨_, rfl⟩
    obtain ⟨base', hbb⟩ : ∃ b, b = base := ⟨_, rfl⟩
    obtain ⟨n', hnn⟩ : ∃ b, b = n := ⟨_, rfl⟩
    subst hcq0 hbb hnn
    have hb0' := hb0
    have hn' := hn
    have hE' := hE
    have hcq : cq ≤ ((j + 1 : Nat) : Int) := by omega
    have MQ := hMw
    clear PUT FGT hMw hE
    -- from the reading on: the world wq, came cq, the book (base', n')
    by_cases hB : xb < 0
    · have hBB := decide_eq_true hB
      have c2 := AT.out _ (NB.out _ _ _ MQ.out)
      have HR := Lib.hid (RDB.out _ base' x xb _ hB hx MQ.out)
      clear MQ RDX RDG RDB EN BS
      go_wp2_with fail
      refine HR.out.mono ?_
      rintro e w7 ⟨rfl, m7⟩
      have M7 := Lib.hid m7
      have c7 := AT.out _ (NB.out _ _ _ m7)
      clear m7 HR c2
      go_wp2_with fail
      go_roundw
      case rel => exact ⟨x, cq, base', j + 1, n', rfl, rfl, by go_num, by omega, by omega, hx0, hx, hb0', hn', hcq, hE', M7⟩
      case measure => simp [intOf]; omega
    have hBB := decide_eq_false hB
    by_cases hG : x < base'
    · have c2 := AT.out _ (NB.out _ _ _ MQ.out)
      have HR := Lib.hid (RDG.out _ base' x xb _ hx0 (by omega) hG hx MQ.out)
      have hE2 := hE'.out
      have hG1 : ¬ base' ≤ x := by omega
      have hG2 : ¬ cq < base' := by omega
      have hbm : base' ≤ 9223372036854775807 := by omega
      clear MQ RDX RDG RDB EN
      go_wp2_with fail
      refine HR.out.mono ?_
      rintro e w7 ⟨rfl, m7⟩
      have HB7 := Lib.hid (BS.out _ _ _ m7)
      have M7 := Lib.hid m7
      have c7 := AT.out _ (NB.out _ _ _ m7)
      clear m7 HR c2 BS
      go_wp2_with fail
      refine HB7.out.mono ?_
      rintro e w8 ⟨rfl, rfl⟩
      go_wp2_with fail
      go_roundw
      case rel => exact ⟨base', cq, base', j + 1, n', rfl, rfl, by go_num, by omega, by omega, hb0', hbm, hb0', hn', hcq, hE', M7⟩
      case measure => simp [intOf]; omega
    have c2 := AT.out _ (NB.out _ _ _ MQ.out)
    have HR := Lib.hid (RDX.out _ base' x xb n' MQ.out hx0 hx (by omega) (by omega))
    clear MQ RDX RDG RDB EN BS
    go_wp2_with fail
    refine HR.out.mono ?_
    rintro e w7 ⟨av, m, cv, rfl, q1, q2, q3, q4, ROW, m7⟩
    have hE2 := hE'.out
    have hxm : x + (m : Int) ≤ 9223372036854775807 := by
        rcases Nat.eq_zero_or_pos m with h0 | h0
        · omega
        · have := q4 h0; omega
    have c7 := AT.out _ (NB.out _ _ _ m7)
    have M7 := Lib.hid m7
    have RW := Lib.hid ROW
    have Q3 := Lib.hid q3
    have hmb : ¬ xb < (m : Int) := by omega
    have hwm : IntKind.i64.wrap (x + (m : Int)) = x + (m : Int) := by rw [IntKind.wrap_i64]; omega
    have hm64 : m ≤ 64 := by omega
    clear m7 ROW q3 q4 HR c2
    by_cases hmx : (m : Int) < xb
    · have hq : ¬ x + (m : Int) < cq := by have := Q3.out hmx; omega
      have hmxB := decide_eq_true hmx
      have hqB := decide_eq_false hq
      go_wp2_with fail
      go_loopw [12] (fun kk wr2 => ∃ k : Nat, kk = .int .i64 k ∧ k ≤ m ∧ wr2 = w7) (fun kk _ => m - (intOf kk).toNat)
      case atStart => exact ⟨0, rfl, Nat.zero_le _, rfl⟩
      case round =>
        obtain ⟨k, rfl, hk, rfl⟩ := hrel
        by_cases hkm : k < m
        · obtain ⟨g1, ⟨g2, o2, l2⟩, c2, rfl, d1, d2⟩ := RW.out k hkm
          have hkmI : (k : Int) < (m : Int) := by omega
          have hwk : IntKind.i64.wrap (x + (k : Int)) = x + (k : Int) := by rw [IntKind.wrap_i64]; omega
          clear RW Q3 M7
          go_wp2_with fail
          go_roundw
          case rel => exact ⟨k + 1, by go_num, by omega, by trivial⟩
          case measure => simp [intOf]; omega
        · obtain rfl : k = m := by omega
          have hkmI : ¬ (k : Int) < (k : Int) := by omega
          clear RW Q3
          go_wp2_with fail
          go_roundw
          case rel => exact ⟨x + (k : Int), cq, base', j + 1, n', rfl, rfl, by go_num, by omega, by omega, by omega, hxm, hb0', hn', hcq, hE', M7⟩
          case measure => simp [intOf]; omega
    · have hmxB := decide_eq_false hmx
      go_wp2_with fail
      go_loopw [12] (fun kk wr2 => ∃ k : Nat, kk = .int .i64 k ∧ k ≤ m ∧ wr2 = w7) (fun kk _ => m - (intOf kk).toNat)
      case atStart => exact ⟨0, rfl, Nat.zero_le _, rfl⟩
      case round =>
        obtain ⟨k, rfl, hk, rfl⟩ := hrel
        by_cases hkm : k < m
        · obtain ⟨g1, ⟨g2, o2, l2⟩, c2, rfl, d1, d2⟩ := RW.out k hkm
          have hkmI : (k : Int) < (m : Int) := by omega
          have hwk : IntKind.i64.wrap (x + (k : Int)) = x + (k : Int) := by rw [IntKind.wrap_i64]; omega
          clear RW Q3 M7
          go_wp2_with fail
          go_roundw
          case rel => exact ⟨k + 1, by go_num, by omega, by trivial⟩
          case measure => simp [intOf]; omega
        · obtain rfl : k = m := by omega
          have hkmI : ¬ (k : Int) < (k : Int) := by omega
          clear RW Q3
          go_wp2_with fail
          go_roundw
          case rel => exact ⟨x + (k : Int), cq, base', j + 1, n', rfl, rfl, by go_num, by omega, by omega, by omega, hxm, hb0', hn', hcq, hE', M7⟩
          case measure => simp [intOf]; omega
end Go.Proofs.Ytlcgicgdlhnfoaa
