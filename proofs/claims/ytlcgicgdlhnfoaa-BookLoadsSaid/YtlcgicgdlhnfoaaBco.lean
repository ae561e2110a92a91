/-
  The book: copied 27, New 8, Base 22, End 23.
-/
import Derived.Test.YtlcgicgdlhnfoaaBmm
namespace Go.Proofs.Ytlcgicgdlhnfoaa
open Go.RowKit
/-- what copied leaves -/
def Cpd (w : World) (xs : List Int) (e : Ending) (w' : World) : Prop := ∃ u, e = .returned (.agg #[u]) ∧ OwnN w' w.heap.size u xs ∧ Below w.heap.size w w'
theorem OwnN.drop {w w' : World} {B B' : Nat} {u : Value} {xs : List Int} (h : OwnN w B u xs) (hB : B' ≤ B) : OwnN w B' u xs := by
  refine ⟨h.1, ?_⟩
  rcases h.2 with hn | ⟨g, cap, cur, e, hb, r⟩
  · exact .inl hn
  · exact .inr ⟨g, cap, cur, e, Nat.le_trans hB hb, r⟩
theorem OwnN.fr {w w' : World} {B : Nat} {u : Value} {xs : List Int} {P : Nat → Prop} (h : OwnN w B u xs) (f : Fr w w' P) (hP : ∀ q, u.ownBlock = some q → ¬ P q) : OwnN w' B u xs := Fr.own h f hP
theorem OwnN.ge {w : World} {B : Nat} {u : Value} {xs : List Int} (h : OwnN w B u xs) : ∀ q, u.ownBlock = some q → B ≤ q ∧ q < w.heap.size := fun q hq => World.ownsRow.lt h q hq
set_option maxHeartbeats 2000000 in
set_option maxRecDepth 100000 in
theorem copied_any {w : World} {a : Option Addr} {xs : List Int} (c : Nat) (h : Nums w a xs) (hl : xs.length ≤ 1000) : Calls Try.prog 27 #[.agg #[.slice a xs.length c]] w (Cpd w xs) := by
  have KA0 := Blk.new w 37 #[.slice a xs.length c]
  have B0 := (Below.refl w.heap.size w).alloc (Nat.le_refl _) (.cells #[.slice a xs.length c] 37)
  have KZ1 := Blk.new (w.alloc (.cells #[.slice a xs.length c] 37)) 37 #[.slice none 0 0]
  have B1 := B0.alloc (by simp) (.cells #[.slice none 0 0] 37)
  have hz : (w.alloc (.cells #[.slice a xs.length c] 37)).heap.size = w.heap.size + 1 := by simp
  rw [hz] at KZ1
  have HZ := Lib.hid KZ1
  have HB := Lib.hid B1
  have HC := Lib.hid (clone_any c (h.next (B1.mono (Nat.le_refl _))) hl)
  clear KA0 B0 KZ1 B1 hz h
  generalize hn : xs.length = n at *
  clear hn
  have HF : Hid (∀ e w', Cpd w xs e w' ↔ Cpd w xs e w') := Lib.hid (fun _ _ => Iff.rfl)
  go_enter Try.func27, Try.ntmps27
  go_wp2_with fail
  refine HC.out.mono ?_
  rintro e w3 ⟨u, rfl, ho, b3⟩
  have KZ := HZ.out.below b3 HZ.out.lt
  have B3 := Lib.hid (HB.out.trans (b3.mono HB.out.size))
  have hs : w.heap.size + 2 ≤ ((w.alloc (.cells #[.slice a n c] 37)).alloc (.cells #[.slice none 0 0] 37)).heap.size := by simp
  have OU := Lib.hid (ho.drop (w' := w) hs)
  obtain ⟨a', c', rfl, -⟩ := ho.nums
  clear b3 HZ HB ho hs HC
  have PZ := Lib.hid KZ
  have z0 : w3.cell? ⟨w.heap.size + 1, 0, none⟩ = some (.slice none 0 0) := KZ.cell 0
  have g0 : w3.frozen? ⟨w.heap.size + 1, 0, none⟩ = false := KZ.free 0
  clear KZ
  generalize xs.length = m at *
  go_wp2_with fail
  have KE := PZ.out.set 0 (.slice a' m c')
  have BE := B3.out.setCell (p := ⟨w.heap.size + 1, 0, none⟩) (Nat.le_succ _) (.slice a' m c')
  have OE := (OU.out.fr (fr_set w3 (w.heap.size + 1) 0 (.slice a' m c')) (fun q hq e => by have := (OU.out.ge q hq).1; omega)).drop (w' := w) (B' := w.heap.size) (by omega)
  generalize (w3.setCell _ _) = w5 at *
  have y0 : w5.cell? ⟨w.heap.size + 1, 0, none⟩ = some (.slice a' m c') := KE.cell 0
  refine bodyPost_ret (by simp [results, Try.results27, go_sem, y0]; try rfl) rfl ?_
  exact ⟨_, rfl, OE, BE⟩
theorem new_any (w : World) : Calls Try.prog 8 #[] w fun e w' => e = .returned (.pointer (some ⟨w.heap.size, 0, none⟩)) ∧ BookAt w' (fun q => q = w.heap.size) w.heap.size 0 [] ∧ Below w.heap.size w w' := by
  have K := Lib.hid (Blk.new w 59 #[.int .i64 0, .slice none 0 0])
  go_enter Try.func8, Try.ntmps8
  go_wp2_with fail
  go_ret
  exact ⟨rfl, ⟨_, [], K.out, .inl ⟨rfl, rfl⟩, Els.nil _ _, rfl, fun q hq => by simp [Value.ownBlock] at hq, fun q hq => by rw [hq]; simp⟩, (Below.refl _ w).alloc (Nat.le_refl _) _⟩
theorem base_nil (w : World) : Calls Try.prog 22 #[.pointer none] w fun e w' => e = .returned (.int .i64 0) ∧ w = w' := by
  go_enter Try.func22, Try.ntmps22
  go_wp2_with fail
  go_ret
  exact ⟨rfl, rfl⟩
theorem end_nil (w : World) : Calls Try.prog 23 #[.pointer none] w fun e w' => e = .returned (.int .i64 0) ∧ w = w' := by
  go_enter Try.func23, Try.ntmps23
  go_wp2_with fail
  go_ret
  exact ⟨rfl, rfl⟩
theorem base_any {w : World} {Bk : Nat → Prop} {t : Nat} {base : Int} {LL : List (List Int)} (h : BookAt w Bk t base LL) : Calls Try.prog 22 #[.pointer (some ⟨t, 0, none⟩)] w fun e w' => e = .returned (.int .i64 base) ∧ w = w' := by
  obtain ⟨v, cs, k, -⟩ := h
  have c0 : w.cell? ⟨t, 0, none⟩ = some (.int .i64 base) := k.cell 0
  clear k
  go_enter Try.func22, Try.ntmps22
  go_wp2_with fail
  go_ret
  exact ⟨rfl, rfl⟩
theorem end_any {w : World} {Bk : Nat → Prop} {t : Nat} {base : Int} {LL : List (List Int)} (h : BookAt w Bk t base LL) (h0 : 0 ≤ base) (h1 : base ≤ 549755813888) (h2 : LL.length ≤ 1000) : Calls Try.prog 23 #[.pointer (some ⟨t, 0, none⟩)] w fun e w' => e = .returned (.int .i64 (base + LL.length)) ∧ Below w.heap.size w w' := by
  obtain ⟨v, cs, k, r, e, -⟩ := h
  have c0 : w.cell? ⟨t, 0, none⟩ = some (.int .i64 base) := k.cell 0
  have c1 : w.cell? ⟨t, 1, none⟩ = some v := k.cell 1
  obtain ⟨a, c, rfl, -, -⟩ := r.form
  have hl := e.1
  rw [← hl] at h2 ⊢
  clear e hl k
  generalize cs.length = n at *
  have h2I : (n : Int) ≤ 1000 := by omega
  have W0 : ¬ (9223372036854775807 < base + n) := by omega
  have BW := Lib.hid (Below.refl w.heap.size w)
  go_enter Try.func23, Try.ntmps23
  go_wp2_with fail
  go_quiet (fail)
  go_wp2_with fail
  go_ret
  exact ⟨rfl, below_drewN BW.out _⟩
end Go.Proofs.Ytlcgicgdlhnfoaa
