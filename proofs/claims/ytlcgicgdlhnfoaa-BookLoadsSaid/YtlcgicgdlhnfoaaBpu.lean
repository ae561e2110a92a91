/-
  The book: Put 11.
-/
import Derived.Test.YtlcgicgdlhnfoaaBcu
import Derived.Deep.RegionHeld3
namespace Go.Proofs.Ytlcgicgdlhnfoaa
open Go.RowKit
theorem step_append_runI {P : Program} {ops : Array Oper} {o : Oper} {a : Act} {w : World} {K : Act → World → Prop} {Q : Exit → Act → World → Prop} {E : Prop}
    (hg : o.guard = none) (d x : Operand) (dT sT : TypeId) (hop : o.op = Op.call { callee := Callee.builtin Builtin.append, args := #[d, x], argTypes := #[dT, sT] })
    (v u : Value) (hd : a.eval d = v) (hx : a.eval x = u) {v' : Value} {w' : World} (hr : (Builtin.append_ #[dT, sT] o.type #[v, u]).run P w = .ok v' w') (hK : K (a.put o.dst v') w') :
    if Region.wanted o (yielded ops a.tmps) = true then Oper.wp P o a w K Q else E := by
  have hw : Region.wanted o (yielded ops a.tmps) = true := by simp [Region.wanted, hg]
  rw [if_pos hw]
  unfold Oper.wp
  simp [execOp, hop, resolve, invoke, builtin, hd, hx, hr, Result.andThen]
  exact hK
/-- what Put answers, and what is left -/
def ptE (base : Int) (LL : List (List Int)) (xs : List Int) : Int := if mayB xs then (if 549755813888 ≤ base + LL.length then 2 else 0) else 1
def ptS (base : Int) (LL : List (List Int)) (xs : List Int) : Int × List (List Int) := if ptE base LL xs = 0 then (if LL.length = 64 then (base + 1, LL.drop 1 ++ [xs]) else (base, LL ++ [xs])) else (base, LL)
/-- a book that was changed, its blocks those that it had, and new ones -/
def Grn (w : World) (Bk : Nat → Prop) (t : Nat) (base : Int) (LL : List (List Int)) (w' : World) : Prop :=
  ∃ Bk', BookAt w' Bk' t base LL ∧ Fr w w' Bk ∧ (∀ q, Bk q → Bk' q) ∧ ∀ q, Bk' q → Bk q ∨ w.heap.size ≤ q
def Ptd (w : World) (Bk : Nat → Prop) (t : Nat) (base : Int) (LL : List (List Int)) (xs : List Int) (e : Ending) (w' : World) : Prop := e = .returned (.int .i64 (ptE base LL xs)) ∧ Grn w Bk t (ptS base LL xs).1 (ptS base LL xs).2 w'
theorem put_nil (m : Value) (u : Value) (hm : m = .agg #[u]) (hu : u.oneCell' = true) (w : World) : Calls Try.prog 11 #[.pointer none, m] w fun e w' => e = .returned (.int .i64 1) ∧ Below w.heap.size w w' := by
  subst hm
  have BW := Lib.hid ((Below.refl w.heap.size w).alloc (Nat.le_refl _) (.cells #[u] 37))
  cases u <;> first | (exact absurd hu (by decide)) | skip
  all_goals
    go_enter Try.func11, Try.ntmps11
    go_wp2_with fail
    go_ret
    exact ⟨rfl, BW.out⟩
set_option maxHeartbeats 8000000 in
set_option maxRecDepth 100000 in
theorem put_any {w : World} {Bk : Nat → Prop} {t : Nat} {base : Int} {LL : List (List Int)} {a : Option Addr} {xs : List Int} (c : Nat) (h : BookAt w Bk t base LL) (ok : BOk base LL) (hn : Nums w a xs) (hl : xs.length ≤ 1000) :
    Calls Try.prog 11 #[.pointer (some ⟨t, 0, none⟩), .agg #[.slice a xs.length c]] w (Ptd w Bk t base LL xs) := by
  have o0 := ok.b0
  have o1 := ok.b1
  have o2 := ok.n
  obtain ⟨W, hW⟩ : ∃ W, W = w.alloc (.cells #[.slice a xs.length c] 37) := ⟨_, rfl⟩
  have bW : Below w.heap.size w W := by rw [hW]; exact (Below.refl _ w).alloc (Nat.le_refl _) _
  have kW : Blk W w.heap.size 37 #[.slice a xs.length c] := by rw [hW]; exact Blk.new _ _ _
  have hB := h.next bW
  have nB := hn.next bW
  have HM := Lib.hid (may_any c nB (by omega))
  have HE := Lib.hid (fun w1 (b : Below W.heap.size W w1) => end_any (hB.next b) o0 (by omega) (by omega))
  have KW := Lib.hid kW
  have BW := Lib.hid bW
  have HW := Lib.hid hW
  have SELF : Hid (∀ w', Below W.heap.size W w' → ptE base LL xs ≠ 0 → Grn w Bk t (ptS base LL xs).1 (ptS base LL xs).2 w') := Lib.hid fun w' b hne => by
    unfold ptS
    rw [if_neg hne]
    exact ⟨Bk, hB.next b, Fr.of_below (bW.trans (b.mono bW.size)) _, fun q hq => hq, fun q hq => .inl hq⟩
  by_cases hm : mayB xs = true
  rotate_left
  · have E : ptE base LL xs = 1 := by unfold ptE; rw [if_neg hm]
    have hmF : mayB xs = false := by simpa using hm
    have FIN : Hid (∀ w', Below W.heap.size W w' → Ptd w Bk t base LL xs (.returned (.int .i64 1)) w') := Lib.hid fun w' b => ⟨by rw [E], SELF.out w' b (by rw [E]; decide)⟩
    rw [hmF] at HM
    have c0 : W.cell? ⟨w.heap.size, 0, none⟩ = some (.slice a xs.length c) := KW.out.cell 0
    clear SELF h hB nB hn bW kW hW E hm hmF HE ok
    generalize Ptd w Bk t base LL xs = Q at *
    generalize xs.length = n at *
    go_enter Try.func11, Try.ntmps11
    go_wp2_with (first | (rw [← HW.out]) | (refine HM.out.mono ?_; rintro e w1 ⟨rfl, b1⟩))
    exact FIN.out _ b1
  rw [hm] at HM
  by_cases he : 549755813888 ≤ base + LL.length
  · have E : ptE base LL xs = 2 := by unfold ptE; rw [if_pos hm, if_pos he]
    have FIN : Hid (∀ w', Below W.heap.size W w' → Ptd w Bk t base LL xs (.returned (.int .i64 2)) w') := Lib.hid fun w' b => ⟨by rw [E], SELF.out w' b (by rw [E]; decide)⟩
    have c0 : W.cell? ⟨w.heap.size, 0, none⟩ = some (.slice a xs.length c) := KW.out.cell 0
    clear SELF h hB nB hn bW kW hW E hm ok
    generalize Ptd w Bk t base LL xs = Q at *
    generalize xs.length = n at *
    generalize base + (LL.length : Int) = z at *
    have heB := decide_eq_true he
    go_enter Try.func11, Try.ntmps11
    go_wp2_with (first | (rw [← HW.out]) | (go_at_call 26; refine HM.out.mono ?_; rintro e w1 ⟨rfl, b1⟩; have B1 := Lib.hid b1; clear b1) | (go_at_call 23; refine (HE.out w1 B1.out).mono ?_; rintro e w2 ⟨rfl, b2⟩; have B2 := Lib.hid (B1.out.trans (b2.mono B1.out.size)); clear b2))
    exact FIN.out _ B2.out
  have E : ptE base LL xs = 0 := by unfold ptE; rw [if_pos hm, if_neg he]
  -- from the append on
  obtain ⟨v, cs, kt, r, e, ht, hv, hlt⟩ := hB
  have hcl := e.1
  have hbv : ∀ q, v.ownBlock = some q → q ≠ t := fun q hq e2 => by
    subst e2
    rcases r with ⟨rfl, rfl⟩ | ⟨g, o, cap, cur, rfl, hg, _⟩
    · simp [Value.ownBlock] at hq
    · have : g = q := by simpa [Value.ownBlock] using hq
      subst this
      exact absurd (kt.ty hg) (by decide)
  -- the copy is there, the row grows, the row is stored, and is cut
  have STEP : Hid (∀ (w1 w3 : World) (u : Value), Below W.heap.size W w1 → OwnN w3 w1.heap.size u xs → Below w1.heap.size w1 w3 →
      ∃ v' w5, (Builtin.append_ #[40, 40] 40 #[v, .slice (some ⟨w3.heap.size, 0, none⟩) 1 1]).run Try.prog (w3.alloc (.cells #[u] 37)) = .ok v' w5 ∧ (∃ a5 c5, v' = .slice (some a5) (cs.length + 1) c5) ∧ Blk w5 t 59 #[.int .i64 base, v] ∧
        ∀ w6, w6 = w5.setCell ⟨t, 1, none⟩ v' → ∃ Bk', BookAt w6 Bk' t base (LL ++ [xs]) ∧ Fr w w6 Bk ∧ (∀ q, Bk q → Bk' q) ∧ ∀ q, Bk' q → Bk q ∨ w.heap.size ≤ q) := Lib.hid fun w1 w3 u b1 hou b3 => by
    have b13 : Below W.heap.size W w3 := b1.trans (b3.mono b1.size)
    have bA : Below w3.heap.size w3 (w3.alloc (.cells #[u] 37)) := (Below.refl _ w3).alloc (Nat.le_refl _) _
    have b14 := b13.trans (bA.mono b13.size)
    have kA : Blk (w3.alloc (.cells #[u] 37)) w3.heap.size 37 #[u] := Blk.new _ _ _
    have rA : RowM (w3.alloc (.cells #[u] 37)) v cs := r.fr (Fr.of_below b14 (fun _ => False)) (fun _ _ h => h)
    have eu : El (w3.alloc (.cells #[u] 37)) (fun q => w1.heap.size ≤ q ∧ q < w3.heap.size) u xs := hou.el.fr (Fr.of_below bA (fun _ => False)) (fun _ _ _ _ h => h)
    obtain ⟨v', w5, hr, r5, f5, hq5, a5, c5, hf5⟩ := put_run (u := u) (ad := ⟨w3.heap.size, 0, none⟩) 40 rA (kA.cell 0) eu.one (by omega)
    have kt5 : Blk w5 t 59 #[.int .i64 base, v] := ((kt.next b14).fr f5 (fun e2 => hbv t e2 rfl))
    refine ⟨v', w5, hr, ⟨a5, c5, hf5⟩, kt5, fun w6 hw6 => ?_⟩
    have f6 : Fr w5 w6 (fun q => q = t) := by rw [hw6]; exact fr_set _ _ _ _
    have fW6 : Fr W w6 (fun q => v.ownBlock = some q ∨ q = t) := ((Fr.of_below b14 (fun q => v.ownBlock = some q ∨ q = t)).on (f5.mono (fun _ _ h => .inl h))).on (f6.mono (fun _ _ h => .inr h))
    have k6 : Blk w6 t 59 #[.int .i64 base, v'] := by rw [hw6]; exact kt5.set 1 v'
    have hWs : w.heap.size ≤ W.heap.size := bW.size
    refine ⟨fun q => Bk q ∨ (w.heap.size ≤ q ∧ q < w6.heap.size), ⟨v', cs ++ [u], k6, r5.fr f6 (fun q hq e2 => ?_), ?_, .inl ht, fun q hq => ?_, fun q hq => ?_⟩, ?_, fun q hq => .inl hq, fun q hq => hq.imp id And.left⟩
    · subst e2
      rcases r5 with ⟨_, h0⟩ | ⟨g, o, cap, cur, hvv, hg, _⟩
      · simp at h0
      · have : g = q := by rw [hvv] at hq; simpa [Value.ownBlock] using hq
        subst this
        exact absurd (kt5.ty hg) (by decide)
    · have e6 : Els w6 Bk cs LL := e.fr fW6 (fun q cu _ hq hh => by
        rcases hh with hh | rfl
        · rcases r with ⟨rfl, rfl⟩ | ⟨g, o, cap, cur, rfl, hg, _⟩
          · simp [Value.ownBlock] at hh
          · have : g = q := by simpa [Value.ownBlock] using hh
            subst this
            exact absurd (hq.ty hg) (by decide)
        · exact absurd (hq.ty kt) (by decide))
      have f56 : Fr (w3.alloc (.cells #[u] 37)) w6 (fun q => v.ownBlock = some q ∨ q = t) := (f5.mono (fun _ _ h => .inl h)).on (f6.mono (fun _ _ h => .inr h))
      have u6 : El w6 (fun q => w1.heap.size ≤ q ∧ q < w3.heap.size) u xs := eu.fr f56 (fun q cu hq _ hh => by
        have hq1 := hq.1
        have hs1 := b1.size
        rcases hh with hh | rfl
        · have := hlt q (hv q hh); omega
        · have := hlt q ht; omega)
      have hs3 : w3.heap.size ≤ w6.heap.size := Nat.le_trans bA.size f56.size
      exact (e6.mono (fun q hq => .inl hq)).snoc (u6.mono (fun q hq => .inr ⟨Nat.le_trans hWs (Nat.le_trans b1.size hq.1), Nat.lt_of_lt_of_le hq.2 hs3⟩))
    · have hq6 : q < w6.heap.size := Nat.lt_of_lt_of_le (r5.lt q hq) f6.size
      rcases hq5 q hq with hh | hh
      · exact .inl (hv q hh)
      · exact .inr ⟨Nat.le_trans (Nat.le_trans hWs b14.size) hh, hq6⟩
    · rcases hq with hq | hq
      · exact Nat.lt_of_lt_of_le (hlt q hq) fW6.size
      · exact hq.2
    · exact (Fr.of_below bW Bk).on (fW6.mono (fun q _ hh => by rcases hh with hh | rfl; exact hv q hh; exact ht))
  have FIN : Hid (∀ w6 w7 Bk', (BookAt w6 Bk' t base (LL ++ [xs]) ∧ Fr w w6 Bk ∧ (∀ q, Bk q → Bk' q) ∧ ∀ q, Bk' q → Bk q ∨ w.heap.size ≤ q) →
      Chd w6 Bk' t (if ((LL.length : Int) + 1 - 64) < 1 then base else base + ((LL.length : Int) + 1 - 64)) ((LL ++ [xs]).drop ((LL.length : Int) + 1 - 64).toNat) w7 → Ptd w Bk t base LL xs (.returned (.int .i64 0)) w7) := Lib.hid fun w6 w7 Bk' h6 hc => by
    obtain ⟨hb6, f6, m1, m2⟩ := h6
    obtain ⟨hb7, f7⟩ := hc
    refine ⟨by rw [E], Bk', ?_, f6.trans f7 (fun _ _ h => h) (fun q hq h => ?_), m1, m2⟩
    · unfold ptS
      rw [if_pos E]
      by_cases h64 : LL.length = 64
      · rw [if_pos h64]
        rw [h64, if_neg (by decide), show (((64 : Nat) : Int) + 1 - 64).toNat = 1 from rfl, List.drop_append_of_le_length (by omega)] at hb7
        exact hb7
      · rw [if_neg h64]
        rw [if_pos (by omega), show ((LL.length : Int) + 1 - 64).toNat = 0 by omega, List.drop_zero] at hb7
        exact hb7
    · rcases m2 q h with h | h
      · exact h
      · omega
  have HC := Lib.hid (fun w6 Bk' (hb : BookAt w6 Bk' t base (LL ++ [xs])) => cut_any (n := (LL.length : Int) + 1 - 64) hb o0 (by omega) (by rw [List.length_append]; simp; omega) (by rw [List.length_append]; simp; omega) (by omega))
  obtain ⟨va, vc, hvf, -, -⟩ := r.form
  subst hvf
  have KT := Lib.hid kt
  have HN := Lib.hid nB
  have HL := Lib.hid hl
  have hlen : (cs.length : Int) = LL.length := by rw [hcl]
  have hw64 : IntKind.i64.wrap ((LL.length : Int) + 1 - 64) = (LL.length : Int) + 1 - 64 := by rw [IntKind.wrap_i64]; omega
  have hn1 : (LL.length : Int) ≤ 64 := by omega
  clear SELF h hn bW kW hW E hm ok hbv hlt hv ht e r kt nB hl
  rw [hcl] at STEP KT
  generalize Ptd w Bk t base LL xs = Q at *
  generalize (LL ++ [xs]).drop ((LL.length : Int) + 1 - 64).toNat = LD at *
  generalize LL ++ [xs] = LA at *
  clear hcl hlen
  generalize LL.length = m at *
  have heB := decide_eq_false he
  have c0 : W.cell? ⟨w.heap.size, 0, none⟩ = some (.slice a xs.length c) := KW.out.cell 0
  go_enter Try.func11, Try.ntmps11
  go_wp2_with (first | (rw [← HW.out]) | (go_at_call 26; refine HM.out.mono ?_; rintro e w1 ⟨rfl, b1⟩; have B1 := Lib.hid b1; clear b1) | (go_at_call 23; refine (HE.out w1 B1.out).mono ?_; rintro e w2 ⟨rfl, b2⟩; have B2 := Lib.hid (B1.out.trans (b2.mono B1.out.size)); clear b2))
  have c2 : w2.cell? ⟨w.heap.size, 0, none⟩ = some (.slice a xs.length c) := (KW.out.next B2.out).cell 0
  have c3 : w2.cell? ⟨t, 1, none⟩ = some (.slice va m vc) := (KT.out.next B2.out).cell 1
  have B3 : Hid (Below W.heap.size W w2.drew) := Lib.hid B2.out.drew
  have HCP := Lib.hid (copied_any c (HN.out.next B3.out) HL.out)
  clear HM HE c0
  go_region_law (first
    | (refine step_append_runI rfl _ _ 40 40 rfl _ _ (by simp [Act.eval]) (by simp [Act.eval]) HR.out ?_)
    | (go_simp; refine HCP.out.mono ?_; rintro e w3 ⟨u, rfl, ho, b3⟩; obtain ⟨v', w5, hr, ⟨a5, c5, hf⟩, k5, fin⟩ := STEP.out w2.drew w3 u B3.out ho b3; obtain ⟨au, cu, rfl, -⟩ := ho.nums; have d3 : w3.cell? ⟨t, 1, none⟩ = some (.slice va m vc) := (KT.out.next (B3.out.trans (b3.mono B3.out.size))).cell 1; have d4 : (w3.alloc (.cells #[.slice au xs.length cu] 37)).cell? ⟨t, 1, none⟩ = some (.slice va m vc) := ((KT.out.next (B3.out.trans (b3.mono B3.out.size))).next ((Below.refl _ _).alloc (Nat.le_refl _) _)).cell 1; subst hf; have K5 := Lib.hid k5; have HFIN := Lib.hid fin; have HR := Lib.hid hr; have d5 : w5.cell? ⟨t, 1, none⟩ = some (.slice va m vc) := k5.cell 1; have f5 := k5.free 1; clear ho b3 k5 fin hr))
  all_goals
    obtain ⟨Bk', h6⟩ := HFIN.out _ rfl
    have K6 := Lib.hid (K5.out.set 1 (.slice (some a5) (m + 1) c5))
    have H6 := Lib.hid h6
    have HC6 := Lib.hid (HC.out _ Bk' h6.1)
    clear h6 HFIN K5 d5 f5 c2 c3
    generalize w5.setCell ⟨t, 1, none⟩ (.slice (some a5) (m + 1) c5) = w6 at *
    have c6 : w6.cell? ⟨t, 1, none⟩ = some (.slice (some a5) (m + 1) c5) := K6.out.cell 1
    go_wp2_with (go_at_call 28; refine HC6.out.mono ?_; rintro e w7 ⟨⟨r, rfl⟩, hc⟩; have HCC := Lib.hid hc; clear hc)
    exact FIN.out w6 w7 Bk' H6.out HCC.out
end Go.Proofs.Ytlcgicgdlhnfoaa
