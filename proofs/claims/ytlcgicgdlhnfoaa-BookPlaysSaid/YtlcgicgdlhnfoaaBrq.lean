/-
  The book: the document's Put 10, whatever; Forget 16.
-/
import Derived.Test.YtlcgicgdlhnfoaaBrp
import Derived.Deep.DeepCutAuto
namespace Go.Proofs.Ytlcgicgdlhnfoaa
open Go.RowKit
theorem rput_any {w : World} {A lo hi : Nat} {base : Int} {LL : List (List Int)} {a q : Option Addr} {xs : List Int} (c cq : Nat) (h : Doc w A lo hi a LL) (ok : BOk base LL) (hn : Nums w q xs) (hq0 : ∀ p, q = some p → xs.length = 0 ∨ p.block < A) (hAw : A ≤ w.heap.size) (hl : xs.length ≤ 1000) (hc : LL.length ≤ c ∧ (c : Int) ≤ 9223372036854775807) :
    Calls Try.prog 10 #[.agg #[.int .i64 base, .slice a LL.length c], .slice q xs.length cq] w (Rptd w A lo hi (ptS base LL xs).1 (ptS base LL xs).2 (ptE base LL xs)) := by
  have o0 := ok.b0
  have o1 := ok.b1
  have o2 := ok.n
  unfold ptS ptE
  by_cases hm : mayB xs = true
  · rw [if_pos hm]
    have hq : ∀ p, q = some p → p.block < A := fun p hp => (hq0 p hp).resolve_left (by have := mayB_len hm; omega)
    by_cases hL : 549755813888 ≤ base + (LL.length : Int)
    · rw [if_pos hL, if_neg (by decide)]
      exact rput_long c cq h o0 o1 o2 hn hq hAw hl hc hm hL
    · rw [if_neg hL, if_pos rfl]
      by_cases h64 : LL.length = 64
      · rw [if_pos h64]
        exact rput_64 c cq h o0 o1 o2 hn hq hAw hl hc hm hL (by omega)
      · rw [if_neg h64]
        exact rput_less c cq h o0 o1 o2 hn hq hAw hl hc hm hL h64
  · rw [if_neg hm, if_neg (by decide)]
    exact rput_bad c cq h o0 o1 o2 hn hAw hl hc (by simpa using hm)
/-- a list without its first ones -/
theorem Doc.drop {w : World} {A lo hi g o : Nat} {LL : List (List Int)} (h : Doc w A lo hi (some ⟨g, o, none⟩) LL) (k : Nat) : Doc w A lo hi (some ⟨g, o + k, none⟩) (LL.drop k) := by
  refine ⟨fun i hi2 => ?_, h.h⟩
  have hl : k + i < LL.length := by rw [List.length_drop] at hi2; omega
  obtain ⟨g2, o2, q, c, e, h1, h2, ck, nn, hp⟩ := h.r (k + i) hl
  simp only [Option.some.injEq, Addr.mk.injEq, and_true] at e
  obtain ⟨rfl, rfl⟩ := e
  refine ⟨g, o + k, q, c, rfl, h1, h2, ?_, ?_, hp⟩
  · rw [List.getElem_drop, Nat.add_assoc]; exact ck
  · rw [List.getElem_drop]; exact nn
theorem Doc.none {w : World} {A lo hi : Nat} {a : Option Addr} (h : hi ≤ w.heap.size) : Doc w A lo hi a [] := ⟨fun i hi2 => by simp at hi2, h⟩
set_option maxHeartbeats 8000000 in
set_option maxRecDepth 100000 in
theorem rforget_any {w : World} {A lo hi : Nat} {base : Int} {LL : List (List Int)} {a : Option Addr} (c : Nat) (b : Int) (h : Doc w A lo hi a LL) (ok : BOk base LL) (hAw : A ≤ w.heap.size) (hc : LL.length ≤ c ∧ (c : Int) ≤ 9223372036854775807) :
    Calls Try.prog 16 #[.agg #[.int .i64 base, .slice a LL.length c], .int .i64 b] w (Rptd w A lo hi (fgS base LL b).1 (fgS base LL b).2 (fgE base LL b)) := by
  have o0 := ok.b0
  have o1 := ok.b1
  have o2 := ok.n
  obtain ⟨W, hW, kY, kR, bW, hWs⟩ := boxes2 w (.int .i64 base) (.slice a LL.length c) (.int .i64 0) (.slice none 0 0)
  have dW := h.next bW
  have hhi := h.h
  have DONE : Hid (∀ (r0 : Int) a5 c5 LL5 b5 err, Doc W A lo hi a5 LL5 → LL5.length ≤ c5 ∧ (c5 : Int) ≤ 9223372036854775807 → Rptd w A lo hi b5 LL5 err (.returned (.tuple #[.agg #[.int .i64 b5, .slice a5 LL5.length c5], .int .i64 err])) ((W.setCell ⟨w.heap.size + 1, 0, none⟩ (.int .i64 b5)).setCell ⟨w.heap.size + 1, 1, none⟩ (.slice a5 LL5.length c5)) ∧ Blk ((W.setCell ⟨w.heap.size + 1, 0, none⟩ (.int .i64 b5)).setCell ⟨w.heap.size + 1, 1, none⟩ (.slice a5 LL5.length c5)) (w.heap.size + 1) 27 #[.int .i64 b5, .slice a5 LL5.length c5]) := Lib.hid fun _ a5 c5 LL5 b5 err d hc5 => by
    have F5 : Fr W ((W.setCell ⟨w.heap.size + 1, 0, none⟩ (.int .i64 b5)).setCell ⟨w.heap.size + 1, 1, none⟩ (.slice a5 LL5.length c5)) (fun q => q = w.heap.size + 1) := ((Fr.refl W (fun q => q = w.heap.size + 1)).set (w.heap.size + 1) 0 (.int .i64 b5) (.inl rfl)).set (w.heap.size + 1) 1 (.slice a5 LL5.length c5) (.inl rfl)
    exact ⟨⟨a5, c5, lo, hi, rfl, d.fr F5 (fun q h => by omega) (fun q h1 h2 => by omega), bW.trans (F5.below (fun q e => by omega) bW.size), .inl ⟨rfl, rfl⟩, hc5⟩, (kR.set 0 (.int .i64 b5)).set 1 (.slice a5 LL5.length c5)⟩
  have y0 : W.cell? ⟨w.heap.size, 0, none⟩ = some (.int .i64 base) := kY.cell 0
  have y1 : W.cell? ⟨w.heap.size, 1, none⟩ = some (.slice a LL.length c) := kY.cell 1
  have r0 : W.cell? ⟨w.heap.size + 1, 0, none⟩ = some (.int .i64 0) := kR.cell 0
  have r1 : W.cell? ⟨w.heap.size + 1, 1, none⟩ = some (.slice none 0 0) := kR.cell 1
  have e0 : W.frozen? ⟨w.heap.size + 1, 0, none⟩ = false := kR.free 0
  have e1 : W.frozen? ⟨w.heap.size + 1, 1, none⟩ = false := kR.free 1
  have HW := Lib.hid hW
  have hw0 : ¬ (9223372036854775807 < base + (LL.length : Int)) := by omega
  have hwl : IntKind.i64.wrap (base + (LL.length : Int)) = base + (LL.length : Int) := by rw [IntKind.wrap_i64]; omega
  unfold fgS fgE
  by_cases h1 : b < 0
  · rw [if_pos (.inl h1), if_pos (.inl h1)]
    have D := Lib.hid (DONE.out 0 a c LL base 1 dW hc)
    have h1B := decide_eq_true h1
    clear DONE dW hc h hW kY kR bW
    generalize Rptd w A lo hi base LL 1 = Q at *
    generalize LL.length = n at *
    go_enter Try.func16, Try.ntmps16
    go_wp2_with (rw [← HW.out])
    have z0 : ((W.setCell ⟨w.heap.size + 1, 0, none⟩ (.int .i64 base)).setCell ⟨w.heap.size + 1, 1, none⟩ (.slice a n c)).cell? ⟨w.heap.size + 1, 0, none⟩ = some (.int .i64 base) := D.out.2.cell 0
    have z1 : ((W.setCell ⟨w.heap.size + 1, 0, none⟩ (.int .i64 base)).setCell ⟨w.heap.size + 1, 1, none⟩ (.slice a n c)).cell? ⟨w.heap.size + 1, 1, none⟩ = some (.slice a n c) := D.out.2.cell 1
    have F := D.out.1
    clear D y0 y1 r0 r1 e0 e1
    generalize (W.setCell ⟨w.heap.size + 1, 0, none⟩ (.int .i64 base)).setCell ⟨w.heap.size + 1, 1, none⟩ (.slice a n c) = w5 at *
    refine bodyPost_ret (by simp [results, Try.results16, go_sem, z0, z1]; try rfl) rfl ?_
    exact F
  have h1B := decide_eq_false h1
  by_cases h2 : base + (LL.length : Int) < b
  · rw [if_pos (.inr (.inl h2)), if_pos (.inr h2)]
    have D := Lib.hid (DONE.out 0 a c LL base 1 dW hc)
    have h2B := decide_eq_true h2
    clear DONE dW hc h hW kY kR bW
    generalize Rptd w A lo hi base LL 1 = Q at *
    generalize LL.length = n at *
    go_enter Try.func16, Try.ntmps16
    go_wp2_with (rw [← HW.out])
    have z0 : ((W.setCell ⟨w.heap.size + 1, 0, none⟩ (.int .i64 base)).setCell ⟨w.heap.size + 1, 1, none⟩ (.slice a n c)).cell? ⟨w.heap.size + 1, 0, none⟩ = some (.int .i64 base) := D.out.2.cell 0
    have z1 : ((W.setCell ⟨w.heap.size + 1, 0, none⟩ (.int .i64 base)).setCell ⟨w.heap.size + 1, 1, none⟩ (.slice a n c)).cell? ⟨w.heap.size + 1, 1, none⟩ = some (.slice a n c) := D.out.2.cell 1
    have F := D.out.1
    clear D y0 y1 r0 r1 e0 e1
    generalize (W.setCell ⟨w.heap.size + 1, 0, none⟩ (.int .i64 base)).setCell ⟨w.heap.size + 1, 1, none⟩ (.slice a n c) = w5 at *
    refine bodyPost_ret (by simp [results, Try.results16, go_sem, z0, z1]; try rfl) rfl ?_
    exact F
  have h2B := decide_eq_false h2
  by_cases h3 : b ≤ base
  · rw [if_pos (.inr (.inr h3)), if_neg (by omega)]
    have D := Lib.hid (DONE.out 0 a c LL base 0 dW hc)
    have h3B := decide_eq_true h3
    clear DONE dW hc h hW kY kR bW
    generalize Rptd w A lo hi base LL 0 = Q at *
    generalize LL.length = n at *
    go_enter Try.func16, Try.ntmps16
    go_wp2_with (rw [← HW.out])
    have z0 : ((W.setCell ⟨w.heap.size + 1, 0, none⟩ (.int .i64 base)).setCell ⟨w.heap.size + 1, 1, none⟩ (.slice a n c)).cell? ⟨w.heap.size + 1, 0, none⟩ = some (.int .i64 base) := D.out.2.cell 0
    have z1 : ((W.setCell ⟨w.heap.size + 1, 0, none⟩ (.int .i64 base)).setCell ⟨w.heap.size + 1, 1, none⟩ (.slice a n c)).cell? ⟨w.heap.size + 1, 1, none⟩ = some (.slice a n c) := D.out.2.cell 1
    have F := D.out.1
    clear D y0 y1 r0 r1 e0 e1
    generalize (W.setCell ⟨w.heap.size + 1, 0, none⟩ (.int .i64 base)).setCell ⟨w.heap.size + 1, 1, none⟩ (.slice a n c) = w5 at *
    refine bodyPost_ret (by simp [results, Try.results16, go_sem, z0, z1]; try rfl) rfl ?_
    exact F
  have h3B := decide_eq_false h3
  rw [if_neg (by omega), if_neg (by omega)]
  obtain ⟨k, hk⟩ : ∃ k : Nat, b - base = (k : Int) := ⟨(b - base).toNat, by omega⟩
  rw [hk, Int.toNat_natCast]
  have hkn : k ≤ LL.length := by omega
  obtain ⟨g, o, hga⟩ : ∃ g o, a = some ⟨g, o, none⟩ := by
    obtain ⟨g, o, q, cq, e, _⟩ := h.r 0 (by omega)
    exact ⟨g, o, e⟩
  subst hga
  have hkI : (k : Int) ≤ (LL.length : Int) := by omega
  have hlc : (LL.length : Int) ≤ (c : Int) := by omega
  have hkc : (k : Int) ≤ (c : Int) := by omega
  have hcI := hc.2
  have hwk : IntKind.i64.wrap (b - base) = b - base := by rw [IntKind.wrap_i64]; omega
  by_cases hck : c = k
  · have E : LL.drop k = [] := List.drop_of_length_le (by omega)
    have hnk0 : ([] : List (List Int)).length = LL.length - k := by simp; omega
    rw [E]
    have D := Lib.hid (DONE.out 0 (some ⟨g, o, none⟩) 0 [] b 0 (Doc.none (by have := dW.h; exact this)) ⟨Nat.le_refl _, by decide⟩)
    rw [hnk0] at D
    subst hck
    clear DONE dW hc h hW kY kR bW E hnk0 hhi
    generalize Rptd w A lo hi b [] 0 = Q at *
    generalize LL.length = n at *
    go_enter Try.func16, Try.ntmps16
    go_wp2_with (rw [← HW.out])
    have z0 : ((W.setCell ⟨w.heap.size + 1, 0, none⟩ (.int .i64 b)).setCell ⟨w.heap.size + 1, 1, none⟩ (.slice (some ⟨g, o, none⟩) (n - c) 0)).cell? ⟨w.heap.size + 1, 0, none⟩ = some (.int .i64 b) := D.out.2.cell 0
    have z1 : ((W.setCell ⟨w.heap.size + 1, 0, none⟩ (.int .i64 b)).setCell ⟨w.heap.size + 1, 1, none⟩ (.slice (some ⟨g, o, none⟩) (n - c) 0)).cell? ⟨w.heap.size + 1, 1, none⟩ = some (.slice (some ⟨g, o, none⟩) (n - c) 0) := D.out.2.cell 1
    have F := D.out.1
    clear D y0 y1 r0 r1 e0 e1
    generalize (W.setCell ⟨w.heap.size + 1, 0, none⟩ (.int .i64 b)).setCell ⟨w.heap.size + 1, 1, none⟩ (.slice (some ⟨g, o, none⟩) (n - c) 0) = w5 at *
    refine bodyPost_ret (by simp [results, Try.results16, go_sem, z0, z1]; try rfl) rfl ?_
    exact F
  · have D := Lib.hid (DONE.out 0 (some ⟨g, o + k, none⟩) (c - k) (LL.drop k) b 0 (dW.drop k) (by rw [List.length_drop]; omega))
    have hck2 : ¬ (c = k) := hck
    rw [List.length_drop] at D
    clear DONE dW hc h hW kY kR bW
    generalize Rptd w A lo hi b (LL.drop k) 0 = Q at *
    generalize LL.length = n at *
    go_enter Try.func16, Try.ntmps16
    go_wp2_with (rw [← HW.out])
    have z0 : ((W.setCell ⟨w.heap.size + 1, 0, none⟩ (.int .i64 b)).setCell ⟨w.heap.size + 1, 1, none⟩ (.slice (some ⟨g, o + k, none⟩) (n - k) (c - k))).cell? ⟨w.heap.size + 1, 0, none⟩ = some (.int .i64 b) := D.out.2.cell 0
    have z1 : ((W.setCell ⟨w.heap.size + 1, 0, none⟩ (.int .i64 b)).setCell ⟨w.heap.size + 1, 1, none⟩ (.slice (some ⟨g, o + k, none⟩) (n - k) (c - k))).cell? ⟨w.heap.size + 1, 1, none⟩ = some (.slice (some ⟨g, o + k, none⟩) (n - k) (c - k)) := D.out.2.cell 1
    have F := D.out.1
    clear D y0 y1 r0 r1 e0 e1
    generalize (W.setCell ⟨w.heap.size + 1, 0, none⟩ (.int .i64 b)).setCell ⟨w.heap.size + 1, 1, none⟩ (.slice (some ⟨g, o + k, none⟩) (n - k) (c - k)) = w5 at *
    refine bodyPost_ret (by simp [results, Try.results16, go_sem, z0, z1]; try rfl) rfl ?_
    exact F
end Go.Proofs.Ytlcgicgdlhnfoaa
