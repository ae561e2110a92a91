/-
  The book: the document's Read 12.
-/
import Derived.Test.YtlcgicgdlhnfoaaBrw
namespace Go.Proofs.Ytlcgicgdlhnfoaa
open Go.RowKit
/-- what the document's Read leaves -/
def Rrd (w : World) (base : Int) (LL : List (List Int)) (x y : Int) (e : Ending) (w' : World) : Prop :=
  Below w.heap.size w w' ∧
  ((x < 0 ∨ y < 0) ∧ e = .returned (.tuple #[.slice none 0 0, .int .i64 0, .int .i64 1]) ∨
   (0 ≤ x ∧ 0 ≤ y) ∧ x < base ∧ e = .returned (.tuple #[.slice none 0 0, .int .i64 base, .int .i64 180]) ∨
   (0 ≤ x ∧ 0 ≤ y) ∧ base ≤ x ∧ ∃ a c, e = .returned (.tuple #[.slice a (sub base LL x y).length c, .int .i64 (x + (sub base LL x y).length), .int .i64 0]) ∧ Rws w' a (sub base LL x y))
set_option maxHeartbeats 8000000 in
set_option maxRecDepth 100000 in
theorem rread_any {w : World} {base : Int} {LL : List (List Int)} {a : Option Addr} (c : Nat) (x y : Int) (h : Rws w a LL) (o0 : 0 ≤ base) (o1 : base + LL.length ≤ 549755813888) (o2 : LL.length ≤ 64) (hx : x ≤ 9223372036854775807) :
    Calls Try.prog 12 #[.agg #[.int .i64 base, .slice a LL.length c], .int .i64 x, .int .i64 y] w (Rrd w base LL x y) := by
  obtain ⟨W, hW⟩ : ∃ W, W = w.alloc (.cells #[.int .i64 base, .slice a LL.length c] 27) := ⟨_, rfl⟩
  have kW : Blk W w.heap.size 27 #[.int .i64 base, .slice a LL.length c] := by rw [hW]; exact Blk.new _ _ _
  have bW : Below w.heap.size w W := by rw [hW]; exact (Below.refl _ w).alloc (Nat.le_refl _) _
  have HW := Lib.hid hW
  have BW := Lib.hid bW
  have y0 : W.cell? ⟨w.heap.size, 0, none⟩ = some (.int .i64 base) := kW.cell 0
  have y1 : W.cell? ⟨w.heap.size, 1, none⟩ = some (.slice a LL.length c) := kW.cell 1
  by_cases h1 : x < 0
  · have F : Hid (Rrd w base LL x y (.returned (.tuple #[.slice none 0 0, .int .i64 0, .int .i64 1])) W) := Lib.hid ⟨bW, .inl ⟨.inl h1, rfl⟩⟩
    have h1B := decide_eq_true h1
    clear h kW bW hW
    generalize Rrd w base LL x y = Q at *
    go_enter Try.func12, Try.ntmps12
    go_wp2_with (rw [← HW.out])
    exact F.out
  have h1B := decide_eq_false h1
  by_cases h2 : y < 0
  · have F : Hid (Rrd w base LL x y (.returned (.tuple #[.slice none 0 0, .int .i64 0, .int .i64 1])) W) := Lib.hid ⟨bW, .inl ⟨.inr h2, rfl⟩⟩
    have h2B := decide_eq_true h2
    clear h kW bW hW
    generalize Rrd w base LL x y = Q at *
    go_enter Try.func12, Try.ntmps12
    go_wp2_with (rw [← HW.out])
    exact F.out
  have h2B := decide_eq_false h2
  by_cases h3 : x < base
  · have F : Hid (∀ n, Rrd w base LL x y (.returned (.tuple #[.slice none 0 0, .int .i64 base, .int .i64 180])) (W.drewN n)) := Lib.hid fun n => ⟨below_drewN bW _, .inr (.inl ⟨⟨by omega, by omega⟩, h3, rfl⟩)⟩
    have h3B := decide_eq_true h3
    clear h kW bW hW
    generalize Rrd w base LL x y = Q at *
    go_enter Try.func12, Try.ntmps12
    go_wp2_with (rw [← HW.out])
    go_quiet (fail)
    go_wp2_with fail
    exact F.out _
  have h3B := decide_eq_false h3
  obtain ⟨d, hd⟩ : ∃ d : Nat, x = base + (d : Int) := ⟨(x - base).toNat, by omega⟩
  obtain ⟨SL, hSL⟩ : ∃ SL, SL = sub base LL x y := ⟨_, rfl⟩
  have hsl : SL.length = min y.toNat (LL.length - d) := by rw [hSL]; unfold sub; rw [List.length_take, List.length_drop, show (x - base).toNat = d by omega]
  have hget : ∀ k (hk : k < SL.length) (hk2 : d + k < LL.length), SL[k] = LL[d + k] := fun k hk hk2 => by
    have : SL[k]? = LL[d + k]? := by
      rw [hSL]; unfold sub
      rw [show (x - base).toNat = d by omega, List.getElem?_take, if_pos (by have := Nat.min_le_left y.toNat (LL.length - d); omega), List.getElem?_drop]
    rw [List.getElem?_eq_getElem hk, List.getElem?_eq_getElem hk2] at this
    exact Option.some.inj this
  have FIN : Hid (∀ w5 a5 c5, Below w.heap.size w w5 → Rws w5 a5 SL → Rrd w base LL x y (.returned (.tuple #[.slice a5 SL.length c5, .int .i64 (x + (SL.length : Int)), .int .i64 0])) w5) := Lib.hid fun w5 a5 c5 b r => ⟨b, .inr (.inr ⟨⟨by omega, by omega⟩, by omega, a5, c5, by rw [hSL], by rw [← hSL]; exact r⟩)⟩
  have hle : SL.length ≤ 64 := by have := Nat.min_le_right y.toNat (LL.length - d); omega
  have T1 : ∀ k, k < SL.length ↔ ((d + k < LL.length) ∧ (k : Int) < y) := fun k => by
    rw [hsl, Nat.lt_min]; omega
  have T1h := Lib.hid T1
  have EL : Hid (∀ k (hk : k < SL.length), ∃ g o q2 c2, a = some ⟨g, o, none⟩ ∧ (∀ wr, Below W.heap.size W wr → wr.cell? ⟨g, o + (d + k), none⟩ = some (.slice q2 SL[k].length c2)) ∧ ∀ wr, Below W.heap.size W wr → Nums wr q2 SL[k]) := Lib.hid fun k hk => by
    have hk2 := ((T1 k).1 hk).1
    obtain ⟨g, o, q2, c2, e, hg, ck, nn⟩ := h (d + k) hk2
    rw [hget k hk hk2]
    exact ⟨g, o, q2, c2, e, fun wr b => ((bW.trans (b.mono bW.size)).cell (p := ⟨g, _, none⟩) hg).trans ck, fun wr b => (nn.next bW).next b⟩
  have KYB : Hid (∀ wr, Below W.heap.size W wr → Blk wr w.heap.size 27 #[.int .i64 base, .slice a LL.length c]) := Lib.hid fun wr b => kW.next b
  obtain ⟨i29, hi29, hz0, hz1, hz2⟩ := info_parts info29
  have C0 := Lib.hid (Cels.nil W (fun _ => True))
  have B0 := Lib.hid (Below.refl W.heap.size W)
  have HGT := Lib.hid hget
  subst hd
  clear h kW bW hW hSL hsl hget y0 y1 T1
  generalize Rrd w base LL (base + (d : Int)) y = Q at *
  have hl2 : (LL.length : Int) ≤ 64 := by omega
  go_enter Try.func12, Try.ntmps12
  have y0 : W.cell? ⟨w.heap.size, 0, none⟩ = some (.int .i64 base) := (KYB.out W (Below.refl _ _)).cell 0
  go_wp2_with (rw [← HW.out])
  clear y0
  go_loopw [9, 10] (fun v i wr => ∃ (k : Nat) (X : Int) (cs : List Value), i = .int .i64 X ∧ k ≤ SL.length ∧ Hid (X = base + (d : Int) + (k : Int)) ∧ Hid (cs.length = k) ∧ Hid (∀ i (hi : i < k) (h2 : i < SL.length), ∃ q c, cs[i]? = some (.slice q SL[i].length c) ∧ ∀ w2, Below W.heap.size W w2 → Nums w2 q SL[i]) ∧ Hid (wr.ownsRow W.heap.size 29 1 v k cs) ∧ Hid (Below W.heap.size W wr)) (fun _ i _ => SL.length - (intOf i - base - d).toNat)
  case atStart => exact ⟨0, base + (d : Int), [], rfl, Nat.zero_le _, Lib.hid (by omega), Lib.hid rfl, Lib.hid (fun i hi => by omega), Lib.hid (World.ownsRow_nil _ _ _ _), B0⟩
  case round =>
    obtain ⟨k, X, cs, rfl, hk, hX, hcl, hC, hO, hB⟩ := hrel
    clear B0 C0
    obtain ⟨va, vc, rfl⟩ := own_form hO.out
    have y0 : wr.cell? ⟨w.heap.size, 0, none⟩ = some (.int .i64 base) := (KYB.out wr hB.out).cell 0
    have y1 : wr.cell? ⟨w.heap.size, 1, none⟩ = some (.slice a LL.length c) := (KYB.out wr hB.out).cell 1
    have hdk : base + (d : Int) + (k : Int) ≤ 9223372036854775807 := by
      rcases Nat.eq_zero_or_pos k with h0 | h0
      · omega
      · have := ((T1h.out (k - 1)).1 (by omega)).1; omega
    have hsb : IntKind.i64.wrap (X - base) = ((d + k : Nat) : Int) := by have := hX.out; rw [IntKind.wrap_i64]; omega
    by_cases hkS : k < SL.length
    · obtain ⟨hA, hBy⟩ := (T1h.out k).1 hkS
      have hAB : decide (((d + k : Nat) : Int) < (LL.length : Int)) = true := decide_eq_true (by omega)
      have hBB := decide_eq_true hBy
      have hAI : ((d + k : Nat) : Int) < (LL.length : Int) := by omega
      obtain ⟨g, o, q2, c2, rfl, CK, NN⟩ := EL.out k hkS
      have ck := CK wr hB.out
      have NNh := Lib.hid NN
      have C2 : Hid (∀ i (hi : i < k + 1) (h2 : i < SL.length), ∃ q c, (cs ++ [Value.slice q2 SL[k].length c2])[i]? = some (.slice q SL[i].length c) ∧ ∀ w2, Below W.heap.size W w2 → Nums w2 q SL[i]) := Lib.hid fun i hi h2 => by
        rcases Nat.lt_or_ge i k with h1 | h1
        · obtain ⟨q', cq', e, nn⟩ := hC.out i h1 h2
          exact ⟨q', cq', by rw [List.getElem?_append_left (by have := hcl.out; omega)]; exact e, nn⟩
        · obtain rfl : i = k := by omega
          have h3 := hcl.out
          exact ⟨q2, c2, by rw [List.getElem?_append_right (by omega), h3, Nat.sub_self]; rfl, NNh.out⟩
      have HL2 : Hid ((cs ++ [Value.slice q2 SL[k].length c2]).length = k + 1) := Lib.hid (by simp [hcl.out])
      have hw1 : IntKind.i64.wrap (X + 1) = X + 1 := by have := hX.out; rw [IntKind.wrap_i64]; omega
      clear CK NN NNh hC EL
      generalize SL[k].length = m at *
      have X2 : Hid (X + 1 = base + (d : Int) + ((k + 1 : Nat) : Int)) := Lib.hid (by have := hX.out; omega)
      go_wp2_with (at_builtin; refine wpList_append_own _ rfl _ _ 25 rfl W.heap.size 29 i29 (.slice none 0 0) 1 24 Try.underlying25 hi29 hz0 hz1 hz2 rfl (by decide) (.slice va k vc) k cs rfl (hO.out.alloc _) ⟨wr.heap.size, 0, none⟩ 1 1 [.slice q2 m c2] rfl rfl news29 (by simp [Value.oneCell']) (by unfold maxLen; omega) (by omega) (by have := hB.out.size; simp; omega) ?_; intro v' w3 hown hgrow _; obtain ⟨g', cap', rfl⟩ := ownsRow_succ hown; have B3 := Lib.hid (app_below hB.out hO.out hgrow).1; have O3 := Lib.hid hown; clear hown hgrow)
      go_roundw
      case rel => exact ⟨k + 1, X + 1, _, by go_num, by omega, X2, HL2, C2, O3, B3⟩
      case measure => have := hX.out; simp [intOf]; omega
    · obtain rfl : k = SL.length := by omega
      have hS2 : ¬ ((d + SL.length < LL.length) ∧ ((SL.length : Nat) : Int) < y) := fun h => hkS ((T1h.out SL.length).2 h)
      have R9 : Hid (Rws wr va SL) := Lib.hid (by
        have hC2 : Cels wr (fun _ => True) cs SL := ⟨hcl.out, fun i h1 h2 => by
          obtain ⟨q, cq, e, nn⟩ := hC.out i h2 h2
          rw [List.getElem?_eq_getElem h1] at e
          exact ⟨q, cq, Option.some.inj e, nn wr hB.out, fun _ _ => trivial⟩⟩
        exact hC2.rws (by rw [hcl.out]; exact hO.out))
      have F := Lib.hid (FIN.out wr va vc (BW.out.trans (hB.out.mono BW.out.size)) R9.out)
      rw [← hX.out] at F
      clear hC hO hB R9 FIN EL
      by_cases hA : ((d + SL.length : Nat) : Int) < (LL.length : Int)
      · have hAB := decide_eq_true hA
        have hBB : decide ((SL.length : Int) < y) = false := decide_eq_false (by omega)
        go_wp2_with fail
        exact F.out
      · have hAB := decide_eq_false hA
        go_wp2_with fail
        exact F.out
end Go.Proofs.Ytlcgicgdlhnfoaa
