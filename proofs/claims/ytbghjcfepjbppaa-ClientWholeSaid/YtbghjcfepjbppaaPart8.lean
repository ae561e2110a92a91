/-
  WHAT THE ROWS REST ON, part 8: Bpu Brd Bmi BOne BRef BRefs Blp Bld.
-/
import Derived.Deep.RegionHeld3
import Derived.Shelf.Abstract
import Derived.Lib.QuietBelow
import Derived.BigQuiet
import Derived.Test.YtbghjcfepjbppaaPart7
/-
  The book: Put 11.
-/
namespace Go.Proofs.Ytbghjcfepjbppaa.Bk
open Go.RowKit
theorem step_append_runI {P : Program} {ops : Array Oper} {o : Oper} {a : Act} {w : World} {K : Act → World → Prop} {Q : Exit → Act → World → Prop} {E : Prop}
    (hg : o.guard = none) (d x : Operand) (dT sT : TypeId) (hop : o.op = Op.call { callee := Callee.builtin Builtin.append, args := #[d, x], argTypes := #[dT, sT] })
    (v u : Value) (hd : a.eval d = v) (hx : a.eval x = u) {v' : Value} {w' : World} (hr : (Builtin.append_ #[dT, sT] o.type #[v, u]).run P w = .ok v' w') (hK : K (a.put o.dst v') w') :
    if Region.wanted o (yielded ops a.tmps) = true then Oper.wp P o a w K Q else E := by
  have hw : Region.wanted o (yielded ops a.tmps) = true := by simp [Region.wanted, hg]
  rw [if_pos hw]
  unfold Oper.wp
  simp [execOp, hop, resolve, invoke, builtin, hd, hx, hr, Result.andThen]
  exact hK
/-- what Put answers, and what is left -/
def ptE (base : Int) (LL : List (List Int)) (xs : List Int) : Int := if mayB xs then (if 549755813888 ≤ base + LL.length then 2 else 0) else 1
def ptS (base : Int) (LL : List (List Int)) (xs : List Int) : Int × List (List Int) := if ptE base LL xs = 0 then (if LL.length = 64 then (base + 1, LL.drop 1 ++ [xs]) else (base, LL ++ [xs])) else (base, LL)
/-- a book that was changed, its blocks those that it had, and new ones -/
def Grn (w : World) (Bk : Nat → Prop) (t : Nat) (base : Int) (LL : List (List Int)) (w' : World) : Prop :=
  ∃ Bk', BookAt w' Bk' t base LL ∧ Fr w w' Bk ∧ (∀ q, Bk q → Bk' q) ∧ ∀ q, Bk' q → Bk q ∨ w.heap.size ≤ q
def Ptd (w : World) (Bk : Nat → Prop) (t : Nat) (base : Int) (LL : List (List Int)) (xs : List Int) (e : Ending) (w' : World) : Prop := e = .returned (.int .i64 (ptE base LL xs)) ∧ Grn w Bk t (ptS base LL xs).1 (ptS base LL xs).2 w'
theorem put_nil (m : Value) (u : Value) (hm : m = .agg #[u]) (hu : u.oneCell' = true) (w : World) : Calls Try.prog 31 #[.pointer none, m] w fun e w' => e = .returned (.int .i64 1) ∧ Below w.heap.size w w' := by
  subst hm
  have BW := Lib.hid ((Below.refl w.heap.size w).alloc (Nat.le_refl _) (.cells #[u] 70))
  cases u <;> first | (exact absurd hu (by decide)) | skip
  all_goals
    go_enter Try.func31, Try.ntmps31
    go_wp2_with fail
    go_ret
    exact ⟨rfl, BW.out⟩
set_option maxHeartbeats 8000000 in
set_option maxRecDepth 100000 in
theorem put_any {w : World} {Bk : Nat → Prop} {t : Nat} {base : Int} {LL : List (List Int)} {a : Option Addr} {xs : List Int} (c : Nat) (h : BookAt w Bk t base LL) (ok : BOk base LL) (hn : Nums w a xs) (hl : xs.length ≤ 1000) :
    Calls Try.prog 31 #[.pointer (some ⟨t, 0, none⟩), .agg #[.slice a xs.length c]] w (Ptd w Bk t base LL xs) := by
  have o0 := ok.b0
  have o1 := ok.b1
  have o2 := ok.n
  obtain ⟨W, hW⟩ : ∃ W, W = w.alloc (.cells #[.slice a xs.length c] 70) := ⟨_, rfl⟩
  have bW : Below w.heap.size w W := by rw [hW]; exact (Below.refl _ w).alloc (Nat.le_refl _) _
  have kW : Blk W w.heap.size 70 #[.slice a xs.length c] := by rw [hW]; exact Blk.new _ _ _
  have hB := h.next bW
  have nB := hn.next bW
  have HM := Lib.hid (may_any c nB (by omega))
  have HE := Lib.hid (fun w1 (b : Below W.heap.size W w1) => end_any (hB.next b) o0 (by omega) (by omega))
  have KW := Lib.hid kW
  have BW := Lib.hid bW
  have HW := Lib.hid hW
  have SELF : Hid (∀ w', Below W.heap.size W w' → ptE base LL xs ≠ 0 → Grn w Bk t (ptS base LL xs).1 (ptS base LL xs).2 w') := Lib.hid fun w' b hne => by
    unfold ptS
    rw [if_neg hne]
    exact ⟨Bk, hB.next b, Fr.of_below (bW.trans (b.mono bW.size)) _, fun q hq => hq, fun q hq => .inl hq⟩
  by_cases hm : mayB xs = true
  rotate_left
  · have E : ptE base LL xs = 1 := by unfold ptE; rw [if_neg hm]
    have hmF : mayB xs = false := by simpa using hm
    have FIN : Hid (∀ w', Below W.heap.size W w' → Ptd w Bk t base LL xs (.returned (.int .i64 1)) w') := Lib.hid fun w' b => ⟨by rw [E], SELF.out w' b (by rw [E]; decide)⟩
    rw [hmF] at HM
    have c0 : W.cell? ⟨w.heap.size, 0, none⟩ = some (.slice a xs.length c) := KW.out.cell 0
    clear SELF h hB nB hn bW kW hW E hm hmF HE ok
    generalize Ptd w Bk t base LL xs = Q at *
    generalize xs.length = n at *
    go_enter Try.func31, Try.ntmps31
    go_wp2_with (first | (rw [← HW.out]) | (refine HM.out.mono ?_; rintro e w1 ⟨rfl, b1⟩))
    exact FIN.out _ b1
  rw [hm] at HM
  by_cases he : 549755813888 ≤ base + LL.length
  · have E : ptE base LL xs = 2 := by unfold ptE; rw [if_pos hm, if_pos he]
    have FIN : Hid (∀ w', Below W.heap.size W w' → Ptd w Bk t base LL xs (.returned (.int .i64 2)) w') := Lib.hid fun w' b => ⟨by rw [E], SELF.out w' b (by rw [E]; decide)⟩
    have c0 : W.cell? ⟨w.heap.size, 0, none⟩ = some (.slice a xs.length c) := KW.out.cell 0
    clear SELF h hB nB hn bW kW hW E hm ok
    generalize Ptd w Bk t base LL xs = Q at *
    generalize xs.length = n at *
    generalize base + (LL.length : Int) = z at *
    have heB := decide_eq_true he
    go_enter Try.func31, Try.ntmps31
    go_wp2_with (first | (rw [← HW.out]) | (go_at_call 63; refine HM.out.mono ?_; rintro e w1 ⟨rfl, b1⟩; have B1 := Lib.hid b1; clear b1) | (go_at_call 64; refine (HE.out w1 B1.out).mono ?_; rintro e w2 ⟨rfl, b2⟩; have B2 := Lib.hid (B1.out.trans (b2.mono B1.out.size)); clear b2))
    exact FIN.out _ B2.out
  have E : ptE base LL xs = 0 := by unfold ptE; rw [if_pos hm, if_neg he]
  -- from the append on
  obtain ⟨v, cs, kt, r, e, ht, hv, hlt⟩ := hB
  have hcl := e.1
  have hbv : ∀ q, v.ownBlock = some q → q ≠ t := fun q hq e2 => by
    subst e2
    rcases r with ⟨rfl, rfl⟩ | ⟨g, o, cap, cur, rfl, hg, _⟩
    · simp [Value.ownBlock] at hq
    · have : g = q := by simpa [Value.ownBlock] using hq
      subst this
      exact absurd (kt.ty hg) (by decide)
  -- the copy is there, the row grows, the row is stored, and is cut
  have STEP : Hid (∀ (w1 w3 : World) (u : Value), Below W.heap.size W w1 → OwnN w3 w1.heap.size u xs → Below w1.heap.size w1 w3 →
      ∃ v' w5, (Builtin.append_ #[35, 35] 35 #[v, .slice (some ⟨w3.heap.size, 0, none⟩) 1 1]).run Try.prog (w3.alloc (.cells #[u] 70)) = .ok v' w5 ∧ (∃ a5 c5, v' = .slice (some a5) (cs.length + 1) c5) ∧ Blk w5 t 124 #[.int .i64 base, v] ∧
        ∀ w6, w6 = w5.setCell ⟨t, 1, none⟩ v' → ∃ Bk', BookAt w6 Bk' t base (LL ++ [xs]) ∧ Fr w w6 Bk ∧ (∀ q, Bk q → Bk' q) ∧ ∀ q, Bk' q → Bk q ∨ w.heap.size ≤ q) := Lib.hid fun w1 w3 u b1 hou b3 => by
    have b13 : Below W.heap.size W w3 := b1.trans (b3.mono b1.size)
    have bA : Below w3.heap.size w3 (w3.alloc (.cells #[u] 70)) := (Below.refl _ w3).alloc (Nat.le_refl _) _
    have b14 := b13.trans (bA.mono b13.size)
    have kA : Blk (w3.alloc (.cells #[u] 70)) w3.heap.size 70 #[u] := Blk.new _ _ _
    have rA : RowM (w3.alloc (.cells #[u] 70)) v cs := r.fr (Fr.of_below b14 (fun _ => False)) (fun _ _ h => h)
    have eu : El (w3.alloc (.cells #[u] 70)) (fun q => w1.heap.size ≤ q ∧ q < w3.heap.size) u xs := hou.el.fr (Fr.of_below bA (fun _ => False)) (fun _ _ _ _ h => h)
    obtain ⟨v', w5, hr, r5, f5, hq5, a5, c5, hf5⟩ := put_run (u := u) (ad := ⟨w3.heap.size, 0, none⟩) 35 rA (kA.cell 0) eu.one (by omega)
    have kt5 : Blk w5 t 124 #[.int .i64 base, v] := ((kt.next b14).fr f5 (fun e2 => hbv t e2 rfl))
    refine ⟨v', w5, hr, ⟨a5, c5, hf5⟩, kt5, fun w6 hw6 => ?_⟩
    have f6 : Fr w5 w6 (fun q => q = t) := by rw [hw6]; exact fr_set _ _ _ _
    have fW6 : Fr W w6 (fun q => v.ownBlock = some q ∨ q = t) := ((Fr.of_below b14 (fun q => v.ownBlock = some q ∨ q = t)).on (f5.mono (fun _ _ h => .inl h))).on (f6.mono (fun _ _ h => .inr h))
    have k6 : Blk w6 t 124 #[.int .i64 base, v'] := by rw [hw6]; exact kt5.set 1 v'
    have hWs : w.heap.size ≤ W.heap.size := bW.size
    refine ⟨fun q => Bk q ∨ (w.heap.size ≤ q ∧ q < w6.heap.size), ⟨v', cs ++ [u], k6, r5.fr f6 (fun q hq e2 => ?_), ?_, .inl ht, fun q hq => ?_, fun q hq => ?_⟩, ?_, fun q hq => .inl hq, fun q hq => hq.imp id And.left⟩
    · subst e2
      rcases r5 with ⟨_, h0⟩ | ⟨g, o, cap, cur, hvv, hg, _⟩
      · simp at h0
      · have : g = q := by rw [hvv] at hq; simpa [Value.ownBlock] using hq
        subst this
        exact absurd (kt5.ty hg) (by decide)
    · have e6 : Els w6 Bk cs LL := e.fr fW6 (fun q cu _ hq hh => by
        rcases hh with hh | rfl
        · rcases r with ⟨rfl, rfl⟩ | ⟨g, o, cap, cur, rfl, hg, _⟩
          · simp [Value.ownBlock] at hh
          · have : g = q := by simpa [Value.ownBlock] using hh
            subst this
            exact absurd (hq.ty hg) (by decide)
        · exact absurd (hq.ty kt) (by decide))
      have f56 : Fr (w3.alloc (.cells #[u] 70)) w6 (fun q => v.ownBlock = some q ∨ q = t) := (f5.mono (fun _ _ h => .inl h)).on (f6.mono (fun _ _ h => .inr h))
      have u6 : El w6 (fun q => w1.heap.size ≤ q ∧ q < w3.heap.size) u xs := eu.fr f56 (fun q cu hq _ hh => by
        have hq1 := hq.1
        have hs1 := b1.size
        rcases hh with hh | rfl
        · have := hlt q (hv q hh); omega
        · have := hlt q ht; omega)
      have hs3 : w3.heap.size ≤ w6.heap.size := Nat.le_trans bA.size f56.size
      exact (e6.mono (fun q hq => .inl hq)).snoc (u6.mono (fun q hq => .inr ⟨Nat.le_trans hWs (Nat.le_trans b1.size hq.1), Nat.lt_of_lt_of_le hq.2 hs3⟩))
    · have hq6 : q < w6.heap.size := Nat.lt_of_lt_of_le (r5.lt q hq) f6.size
      rcases hq5 q hq with hh | hh
      · exact .inl (hv q hh)
      · exact .inr ⟨Nat.le_trans (Nat.le_trans hWs b14.size) hh, hq6⟩
    · rcases hq with hq | hq
      · exact Nat.lt_of_lt_of_le (hlt q hq) fW6.size
      · exact hq.2
    · exact (Fr.of_below bW Bk).on (fW6.mono (fun q _ hh => by rcases hh with hh | rfl; exact hv q hh; exact ht))
  have FIN : Hid (∀ w6 w7 Bk', (BookAt w6 Bk' t base (LL ++ [xs]) ∧ Fr w w6 Bk ∧ (∀ q, Bk q → Bk' q) ∧ ∀ q, Bk' q → Bk q ∨ w.heap.size ≤ q) →
      Chd w6 Bk' t (if ((LL.length : Int) + 1 - 64) < 1 then base else base + ((LL.length : Int) + 1 - 64)) ((LL ++ [xs]).drop ((LL.length : Int) + 1 - 64).toNat) w7 → Ptd w Bk t base LL xs (.returned (.int .i64 0)) w7) := Lib.hid fun w6 w7 Bk' h6 hc => by
    obtain ⟨hb6, f6, m1, m2⟩ := h6
    obtain ⟨hb7, f7⟩ := hc
    refine ⟨by rw [E], Bk', ?_, f6.trans f7 (fun _ _ h => h) (fun q hq h => ?_), m1, m2⟩
    · unfold ptS
      rw [if_pos E]
      by_cases h64 : LL.length = 64
      · rw [if_pos h64]
        rw [h64, if_neg (by decide), show (((64 : Nat) : Int) + 1 - 64).toNat = 1 from rfl, List.drop_append_of_le_length (by omega)] at hb7
        exact hb7
      · rw [if_neg h64]
        rw [if_pos (by omega), show ((LL.length : Int) + 1 - 64).toNat = 0 by omega, List.drop_zero] at hb7
        exact hb7
    · rcases m2 q h with h | h
      · exact h
      · omega
  have HC := Lib.hid (fun w6 Bk' (hb : BookAt w6 Bk' t base (LL ++ [xs])) => cut_any (n := (LL.length : Int) + 1 - 64) hb o0 (by omega) (by rw [List.length_append]; simp; omega) (by rw [List.length_append]; simp; omega) (by omega))
  obtain ⟨va, vc, hvf, -, -⟩ := r.form
  subst hvf
  have KT := Lib.hid kt
  have HN := Lib.hid nB
  have HL := Lib.hid hl
  have hlen : (cs.length : Int) = LL.length := by rw [hcl]
  have hw64 : IntKind.i64.wrap ((LL.length : Int) + 1 - 64) = (LL.length : Int) + 1 - 64 := by rw [IntKind.wrap_i64]; omega
  have hn1 : (LL.length : Int) ≤ 64 := by omega
  clear SELF h hn bW kW hW E hm ok hbv hlt hv ht e r kt nB hl
  rw [hcl] at STEP KT
  generalize Ptd w Bk t base LL xs = Q at *
  generalize (LL ++ [xs]).drop ((LL.length : Int) + 1 - 64).toNat = LD at *
  generalize LL ++ [xs] = LA at *
  clear hcl hlen
  generalize LL.length = m at *
  have heB := decide_eq_false he
  have c0 : W.cell? ⟨w.heap.size, 0, none⟩ = some (.slice a xs.length c) := KW.out.cell 0
  go_enter Try.func31, Try.ntmps31
  go_wp2_with (first | (rw [← HW.out]) | (go_at_call 63; refine HM.out.mono ?_; rintro e w1 ⟨rfl, b1⟩; have B1 := Lib.hid b1; clear b1) | (go_at_call 64; refine (HE.out w1 B1.out).mono ?_; rintro e w2 ⟨rfl, b2⟩; have B2 := Lib.hid (B1.out.trans (b2.mono B1.out.size)); clear b2))
  have c2 : w2.cell? ⟨w.heap.size, 0, none⟩ = some (.slice a xs.length c) := (KW.out.next B2.out).cell 0
  have c3 : w2.cell? ⟨t, 1, none⟩ = some (.slice va m vc) := (KT.out.next B2.out).cell 1
  have B3 : Hid (Below W.heap.size W w2.drew) := Lib.hid B2.out.drew
  have HCP := Lib.hid (copied_any c (HN.out.next B3.out) HL.out)
  clear HM HE c0
  go_region_law (first
    | (refine step_append_runI rfl _ _ 35 35 rfl _ _ (by simp [Act.eval]) (by simp [Act.eval]) HR.out ?_)
    | (go_simp; refine HCP.out.mono ?_; rintro e w3 ⟨u, rfl, ho, b3⟩; obtain ⟨v', w5, hr, ⟨a5, c5, hf⟩, k5, fin⟩ := STEP.out w2.drew w3 u B3.out ho b3; obtain ⟨au, cu, rfl, -⟩ := ho.nums; have d3 : w3.cell? ⟨t, 1, none⟩ = some (.slice va m vc) := (KT.out.next (B3.out.trans (b3.mono B3.out.size))).cell 1; have d4 : (w3.alloc (.cells #[.slice au xs.length cu] 70)).cell? ⟨t, 1, none⟩ = some (.slice va m vc) := ((KT.out.next (B3.out.trans (b3.mono B3.out.size))).next ((Below.refl _ _).alloc (Nat.le_refl _) _)).cell 1; subst hf; have K5 := Lib.hid k5; have HFIN := Lib.hid fin; have HR := Lib.hid hr; have d5 : w5.cell? ⟨t, 1, none⟩ = some (.slice va m vc) := k5.cell 1; have f5 := k5.free 1; clear ho b3 k5 fin hr))
  all_goals
    obtain ⟨Bk', h6⟩ := HFIN.out _ rfl
    have K6 := Lib.hid (K5.out.set 1 (.slice (some a5) (m + 1) c5))
    have H6 := Lib.hid h6
    have HC6 := Lib.hid (HC.out _ Bk' h6.1)
    clear h6 HFIN K5 d5 f5 c2 c3
    generalize w5.setCell ⟨t, 1, none⟩ (.slice (some a5) (m + 1) c5) = w6 at *
    have c6 : w6.cell? ⟨t, 1, none⟩ = some (.slice (some a5) (m + 1) c5) := K6.out.cell 1
    go_wp2_with (go_at_call 66; refine HC6.out.mono ?_; rintro e w7 ⟨⟨r, rfl⟩, hc⟩; have HCC := Lib.hid hc; clear hc)
    exact FIN.out w6 w7 Bk' H6.out HCC.out
end Go.Proofs.Ytbghjcfepjbppaa.Bk
/-
  The book: Read 13.
-/
namespace Go.Proofs.Ytbghjcfepjbppaa.Bk
open Go.RowKit
attribute [local go_sem] Oper.semAt_some
/-- matches of the call's own -/
def OwnM (w : World) (B : Nat) (v : Value) (ms : List Mv) : Prop := w.ownsRow B 70 1 v ms.length (ms.map (·.1)) ∧ ∀ x ∈ ms, OwnN w B x.1 x.2
theorem own_nc {w : World} {B size n l : Nat} {e : TypeId} {v : Value} {xs : List Value} (h : w.ownsRow B e size v n xs) (hn : NC w l) : ∀ q, v.ownBlock = some q → q ≠ l := by
  intro q hq e2
  subst e2
  rcases h.2 with ⟨rfl, _⟩ | ⟨g, cap, cur, rfl, _, hg, _⟩
  · simp [Value.ownBlock] at hq
  · have : g = q := by simpa [Value.ownBlock] using hq
    subst this
    exact hn _ _ _ hg
theorem OwnM.fr {w w' : World} {B : Nat} {v : Value} {ms : List Mv} {P : Nat → Prop} (h : OwnM w B v ms) (f : Fr w w' P) (hP : ∀ q, B ≤ q → q < w.heap.size → (∃ c t, Blk w q t c ∧ (t = 70 ∨ t = 3)) → ¬ P q) : OwnM w' B v ms := by
  refine ⟨Fr.own h.1 f (fun q hq => ?_), fun x hx => (h.2 x hx).fr f (fun q hq => ?_)⟩
  · rcases h.1.2 with ⟨e, _⟩ | ⟨g, cap, cur, e, hb, hg, _⟩
    · rw [e] at hq; simp [Value.ownBlock] at hq
    · rw [e] at hq
      have : g = q := by simpa [Value.ownBlock] using hq
      subst this
      exact hP g hb (Array.getElem?_eq_some_iff.1 hg).1 ⟨_, _, hg, .inl rfl⟩
  · rcases (h.2 x hx).2 with ⟨e, _⟩ | ⟨g, cap, cur, e, hb, hg, _⟩
    · rw [e] at hq; simp [Value.ownBlock] at hq
    · rw [e] at hq
      have : g = q := by simpa [Value.ownBlock] using hq
      subst this
      exact hP g hb (Array.getElem?_eq_some_iff.1 hg).1 ⟨_, _, hg, .inr rfl⟩
/-- what Read answers -/
def Rdd (w : World) (base : Int) (LL : List (List Int)) (from_ most : Int) (e : Ending) (w' : World) : Prop :=
  Below w.heap.size w w' ∧
  ((from_ < 0 ∨ most < 0) ∧ e = .returned (.tuple #[.slice none 0 0, .int .i64 0, .int .i64 1]) ∨
   (0 ≤ from_ ∧ 0 ≤ most) ∧ from_ < base ∧ e = .returned (.tuple #[.slice none 0 0, .int .i64 base, .int .i64 180]) ∨
   (0 ≤ from_ ∧ 0 ≤ most) ∧ base ≤ from_ ∧ ∃ v ms, e = .returned (.tuple #[v, .int .i64 (from_ + (sub base LL from_ most).length), .int .i64 0]) ∧ ms.map (·.2) = sub base LL from_ most ∧ OwnM w' w.heap.size v ms)
theorem read_nil (x y : Int) (w : World) : Calls Try.prog 32 #[.pointer none, .int .i64 x, .int .i64 y] w fun e w' => e = .returned (.tuple #[.slice none 0 0, .int .i64 0, .int .i64 1]) ∧ Below w.heap.size w w' := by
  have BW := Lib.hid ((Below.refl w.heap.size w).alloc (Nat.le_refl _) (.cells #[.slice none 0 0] 35))
  go_enter Try.func32, Try.ntmps32
  go_wp2_with fail
  refine bodyPost_ret (by simp [results, Try.results32, go_sem]; try rfl) rfl ?_
  exact ⟨rfl, BW.out⟩
/-- the loop's state: the result's box, its row, what came -/
structure RdI (w : World) (Wl : Nat) (pre : List Mv) (W : World) : Prop where
  box : ∃ v, Blk W w.heap.size 35 #[v] ∧ OwnM W Wl v pre
  b : Below w.heap.size w W
  n : Wl ≤ W.heap.size
theorem RdI.turn {w A B : World} {Wl : Nat} {pre : List Mv} (h : RdI w Wl pre A) (hw : w.heap.size ≤ Wl) (hn : NC A (Wl + 1)) (f : Fr A B (fun q => q = Wl + 1)) : RdI w Wl pre B := by
  obtain ⟨v, kb, ho⟩ := h.box
  refine ⟨⟨v, kb.fr f (kb.nc hn), ho.fr f (fun q _ _ ⟨c, t, k, _⟩ => k.nc hn)⟩, h.b.trans (f.below (fun q e => by omega) h.b.size), Nat.le_trans h.n f.size⟩
theorem own_form {w : World} {B size n : Nat} {e : TypeId} {v : Value} {xs : List Value} (h : w.ownsRow B e size v n xs) : ∃ a c, v = .slice a n c := by
  rcases h.2 with ⟨rfl, rfl⟩ | ⟨g, cap, cur, rfl, _⟩
  · exact ⟨none, 0, rfl⟩
  · exact ⟨_, cap, rfl⟩
theorem OwnM.drop {w : World} {B B' : Nat} {v : Value} {ms : List Mv} (h : OwnM w B v ms) (hB : B' ≤ B) : OwnM w B' v ms := by
  refine ⟨⟨h.1.1, ?_⟩, fun x hx => (h.2 x hx).drop (w' := w) hB⟩
  rcases h.1.2 with hn | ⟨g, cap, cur, e, hb, r⟩
  · exact .inl hn
  · exact .inr ⟨g, cap, cur, e, Nat.le_trans hB hb, r⟩
theorem own_ty {w : World} {B size n : Nat} {e : TypeId} {v : Value} {xs : List Value} (h : w.ownsRow B e size v n xs) : ∀ q, v.ownBlock = some q → B ≤ q ∧ ∃ c, Blk w q e c := by
  intro q hq
  rcases h.2 with ⟨rfl, _⟩ | ⟨g, cap, cur, rfl, hb, hg, _⟩
  · simp [Value.ownBlock] at hq
  · have : g = q := by simpa [Value.ownBlock] using hq
    subst this
    exact ⟨hb, cur, hg⟩
/-- a match is put behind those that came -/
theorem rd_step {X Wl : Nat} {W2 w3 : World} {v v' u : Value} {pre : List Mv} {xs : List Int} (kb : Blk W2 X 35 #[v]) (ho : OwnM W2 Wl v pre) (hx : OwnN W2 Wl u xs) (hwl : X < Wl)
    (hown : w3.ownsRow Wl 70 1 v' (pre.length + 1) (pre.map (·.1) ++ [u])) (hg : (W2.alloc (.cells #[u] 70)).grownBy w3 v.ownBlock) :
    Blk w3 X 35 #[v] ∧ Blk (w3.setCell ⟨X, 0, none⟩ v') X 35 #[v'] ∧ OwnM (w3.setCell ⟨X, 0, none⟩ v') Wl v' (pre ++ [(u, xs)]) ∧ KeepsOthers W2 (w3.setCell ⟨X, 0, none⟩ v') ∧ Fr W2 (w3.setCell ⟨X, 0, none⟩ v') (fun q => q = X ∨ Wl ≤ q) := by
  have bA : Below W2.heap.size W2 (W2.alloc (.cells #[u] 70)) := (Below.refl _ _).alloc (Nat.le_refl _) _
  have f3 : Fr (W2.alloc (.cells #[u] 70)) w3 (fun q => v.ownBlock = some q) := (Fr.of_grown hg).mono (fun q _ e => e.symm)
  have kbA := kb.next bA
  have hoA : OwnM (W2.alloc (.cells #[u] 70)) Wl v pre := ho.fr (Fr.of_below bA (fun _ => False)) (fun _ _ _ _ h => h)
  have kb3 : Blk w3 X 35 #[v] := kbA.fr f3 (fun e => by
    obtain ⟨_, c, k⟩ := own_ty hoA.1 X e
    exact absurd (kbA.ty k) (by decide))
  have fs := fr_set w3 X 0 v'
  have f23 : Fr W2 w3 (fun q => v.ownBlock = some q) := (Fr.of_below bA _).on f3
  have el : ∀ x : Mv, OwnN W2 Wl x.1 x.2 → OwnN (w3.setCell ⟨X, 0, none⟩ v') Wl x.1 x.2 := fun x h => by
    have h3 : OwnN w3 Wl x.1 x.2 := h.fr f23 (fun q hq e => by
      obtain ⟨_, c, k⟩ := own_ty ho.1 q e
      obtain ⟨_, c2, k2⟩ := own_ty h q hq
      exact absurd (k.ty k2) (by decide))
    exact h3.fr fs (fun q hq e => by have := (own_ty h3 q hq).1; omega)
  refine ⟨kb3, kb3.set 0 v', ⟨?_, fun x hm => ?_⟩, ?_, (f23.mono (fun q _ e => .inr (own_ty ho.1 q e).1)).on (fs.mono (fun q _ e => .inl e))⟩
  · have := Fr.own hown fs (fun q hq e => by have := (own_ty hown q hq).1; omega)
    rw [List.map_append, List.length_append]
    exact this
  · rcases List.mem_append.1 hm with hm | hm
    · exact el x (ho.2 x hm)
    · rw [List.mem_singleton.1 hm]; exact el (u, xs) hx
  · refine ((KeepsOthers.alloc W2 _).trans (KeepsOthers.of_grownBy hg fun j o ej hj => ?_)).trans (KeepsOthers.setCell _ _ _)
    obtain ⟨_, c, k⟩ := own_ty hoA.1 j ej
    rw [show (W2.alloc (.cells #[u] 70)).heap[j]? = _ from k] at hj
    cases hj; rfl
theorem read_bad {w : World} {t : Nat} (base : Int) (LL : List (List Int)) {from_ most : Int} (hb : from_ < 0 ∨ most < 0) : Calls Try.prog 32 #[.pointer (some ⟨t, 0, none⟩), .int .i64 from_, .int .i64 most] w (Rdd w base LL from_ most) := by
  have BW := Lib.hid ((Below.refl w.heap.size w).alloc (Nat.le_refl _) (.cells #[.slice none 0 0] 35))
  have FIN := Lib.hid (fun w' (b : Below w.heap.size w w') => show Rdd w base LL from_ most (.returned (.tuple #[.slice none 0 0, .int .i64 0, .int .i64 1])) w' from ⟨b, .inl ⟨hb, rfl⟩⟩)
  generalize Rdd w base LL from_ most = Q at *
  by_cases h1 : from_ < 0
  · have h1B := decide_eq_true h1
    go_enter Try.func32, Try.ntmps32
    go_wp2_with fail
    refine bodyPost_ret (by simp [results, Try.results32, go_sem]; try rfl) rfl ?_
    exact FIN.out _ BW.out
  · have h2 : most < 0 := by omega
    have h1B := decide_eq_false h1
    have h2B := decide_eq_true h2
    go_enter Try.func32, Try.ntmps32
    go_wp2_with fail
    refine bodyPost_ret (by simp [results, Try.results32, go_sem]; try rfl) rfl ?_
    exact FIN.out _ BW.out
theorem read_gone {w : World} {Bk : Nat → Prop} {t : Nat} {base : Int} {LL : List (List Int)} {from_ most : Int} (h : BookAt w Bk t base LL) (h1 : 0 ≤ from_) (h2 : 0 ≤ most) (h3 : from_ < base) : Calls Try.prog 32 #[.pointer (some ⟨t, 0, none⟩), .int .i64 from_, .int .i64 most] w (Rdd w base LL from_ most) := by
  have BW := Lib.hid (((Below.refl w.heap.size w).alloc (Nat.le_refl _) (.cells #[.slice none 0 0] 35)).drew)
  have FIN := Lib.hid (fun w' (b : Below w.heap.size w w') => show Rdd w base LL from_ most (.returned (.tuple #[.slice none 0 0, .int .i64 base, .int .i64 180])) w' from ⟨b, .inr (.inl ⟨⟨h1, h2⟩, h3, rfl⟩)⟩)
  obtain ⟨v, cs, k, -⟩ := h
  have c0 : w.cell? ⟨t, 0, none⟩ = some (.int .i64 base) := k.cell 0
  have ht := k.lt
  clear k
  generalize Rdd w base LL from_ most = Q at *
  have h1B := decide_eq_false (show ¬ from_ < 0 by omega)
  have h2B := decide_eq_false (show ¬ most < 0 by omega)
  have h3B := decide_eq_true h3
  go_enter Try.func32, Try.ntmps32
  go_wp2_with fail
  go_region
  all_goals go_wp2_with fail
  all_goals refine bodyPost_ret (by simp [results, Try.results32, go_sem]; try rfl) rfl ?_
  all_goals exact FIN.out _ BW.out
theorem newsM {W : World} {u : Value} : ∀ j x, ([u] : List Value)[j]? = some x → (W.alloc (.cells #[u] 70)).cell? ((⟨W.heap.size, 0, none⟩ : Addr).add j) = some x := by
  intro j x hj
  match j, hj with
  | 0, hj => rw [addr_add, (Blk.new W 70 #[u]).cell]; exact hj
set_option maxHeartbeats 8000000 in
set_option maxRecDepth 100000 in
theorem read_ok {w : World} {Bk : Nat → Prop} {t : Nat} {base : Int} {LL : List (List Int)} {from_ most : Int} (h : BookAt w Bk t base LL) (ok : BOk base LL) (hl : ∀ xs ∈ LL, xs.length ≤ 1000) (h1 : 0 ≤ from_) (h2 : 0 ≤ most) (h3 : base ≤ from_) (hf2 : from_ ≤ 9223372036854775807) :
    Calls Try.prog 32 #[.pointer (some ⟨t, 0, none⟩), .int .i64 from_, .int .i64 most] w (Rdd w base LL from_ most) := by
  have FIN := Lib.hid (fun w' v ms (b : Below w.heap.size w w') (e : ms.map (·.2) = sub base LL from_ most) (o : OwnM w' w.heap.size v ms) => show Rdd w base LL from_ most (.returned (.tuple #[v, .int .i64 (from_ + (sub base LL from_ most).length), .int .i64 0])) w' from ⟨b, .inr (.inr ⟨⟨h1, h2⟩, h3, v, ms, rfl, e, o⟩)⟩)
  obtain ⟨w1, hw1⟩ : ∃ w1, w1 = w.alloc (.cells #[.slice none 0 0] 35) := ⟨_, rfl⟩
  have b1 : Below w.heap.size w w1 := by rw [hw1]; exact (Below.refl _ w).alloc (Nat.le_refl _) _
  have k1 : Blk w1 w.heap.size 35 #[.slice none 0 0] := by rw [hw1]; exact Blk.new _ _ _
  have s1 : w1.heap.size = w.heap.size + 1 := by rw [hw1]; simp
  obtain ⟨w2, hw2⟩ : ∃ w2, w2 = ((w1.alloc (.cells #[.pointer (some ⟨t, 0, none⟩)] 76)).alloc (.cells #[.int .i64 from_] 3)).alloc (.cells #[.int .i64 most] 3) := ⟨_, rfl⟩
  have z1 : (w1.alloc (.cells #[.pointer (some ⟨t, 0, none⟩)] 76)).heap.size = w1.heap.size + 1 := by simp
  have z2 : ((w1.alloc (.cells #[.pointer (some ⟨t, 0, none⟩)] 76)).alloc (.cells #[.int .i64 from_] 3)).heap.size = w1.heap.size + 2 := by simp
  have kt1 := Blk.new w1 76 #[.pointer (some ⟨t, 0, none⟩)]
  have kf1 := Blk.new (w1.alloc (.cells #[.pointer (some ⟨t, 0, none⟩)] 76)) 3 #[.int .i64 from_]
  have km1 := Blk.new ((w1.alloc (.cells #[.pointer (some ⟨t, 0, none⟩)] 76)).alloc (.cells #[.int .i64 from_] 3)) 3 #[.int .i64 most]
  have bA := (Below.refl w1.heap.size w1).alloc (Nat.le_refl _) (.cells #[.pointer (some ⟨t, 0, none⟩)] 76)
  have bB := (Below.refl (w1.heap.size + 1) (w1.alloc (.cells #[.pointer (some ⟨t, 0, none⟩)] 76))).alloc (by simp) (.cells #[.int .i64 from_] 3)
  have bC := (Below.refl (w1.heap.size + 2) ((w1.alloc (.cells #[.pointer (some ⟨t, 0, none⟩)] 76)).alloc (.cells #[.int .i64 from_] 3))).alloc (by simp) (.cells #[.int .i64 most] 3)
  rw [z1] at kf1
  rw [z2] at km1
  rw [← hw2] at km1 bC
  have kf2 := kf1.below bC (by omega)
  have kt2 := (kt1.below bB (by omega)).below bC (by omega)
  have b2 : Below w1.heap.size w1 w2 := (bA.trans (bB.mono (by omega))).trans (bC.mono (by omega))
  have s2 : w2.heap.size = w1.heap.size + 3 := by rw [hw2]; simp
  have hB2 := (h.next b1).next b2
  have k2 := k1.next b2
  have hBlt := h
  obtain ⟨v0, cs0, k0, -, -, -, -, hlt⟩ := h
  have Y := yields (Fb := fun q => q = w.heap.size) 4 (by decide) hB2 ok hl h3 hf2 h2 kt2 kf2 km1 (fun q hq e => by have := hlt q hq; omega)
  have b12 := b1.trans (b2.mono b1.size)
  have I0 : RdI w w2.heap.size [] w2 := ⟨⟨_, k2, World.ownsRow_nil _ _ _ _, fun x hx => by simp at hx⟩, b12, Nat.le_refl _⟩
  have hsub : (sub base LL from_ most).length ≤ 64 := by
    have := ok.n
    unfold sub; rw [List.length_take, List.length_drop]; omega
  have hsubF : from_ + (sub base LL from_ most).length ≤ 9223372036854775807 := by
    have := ok.n
    have := ok.b1
    unfold sub
    rw [List.length_take, List.length_drop]
    omega
  have HY := Lib.hid Y
  have HI0 := Lib.hid I0
  have H2 := Lib.hid hw2
  have HW1 := Lib.hid hw1
  have S2 := Lib.hid s2
  have S1 := Lib.hid s1
  have c0 : w1.cell? ⟨t, 0, none⟩ = some (.int .i64 base) := (k0.next b1).cell 0
  have hwl : w.heap.size ≤ w2.heap.size := b12.size
  have hwl2 : w.heap.size + 1 ≤ w2.heap.size := by omega
  clear Y I0 hw2 hw1 s2 s1 z1 z2 kt1 kf1 km1 bA bB bC kf2 kt2 b2 hB2 k2 k0 hlt b12 b1 k1 hBlt ok hl
  obtain ⟨SL, hSL⟩ : ∃ SL, SL = sub base LL from_ most := ⟨_, rfl⟩
  rw [← hSL] at HY FIN hsub hsubF
  clear hSL
  generalize Rdd w base LL from_ most = Q at *
  have h1B := decide_eq_false (show ¬ from_ < 0 by omega)
  have h2B := decide_eq_false (show ¬ most < 0 by omega)
  have h3B := decide_eq_false (show ¬ from_ < base by omega)
  obtain ⟨i0, hi, hz0, hz1, hz2⟩ := info_parts info37
  refine (callsIn_wide (n := 5)).1 ?_
  refine callsIn_of_wp_marks Try.func32 rfl trivial ?_ rfl
  simp only [Try.ntmps32, List.size_toArray, List.length_cons, List.length_nil, Nat.reduceAdd, Nat.reduceSub, Array.replicate_succ, Array.replicate_zero, List.push_toArray, List.append_toArray, List.nil_append, List.cons_append]
  gi_wp2_with (rw [← HW1.out])
  refine ⟨trivial, ?_⟩
  refine ((callsIn_wide (n := 4)).2 ((callsIn_wide (n := 3)).1 (behind_any t from_ most))).mono ?_
  rintro e w' ⟨rfl, rfl⟩
  rw [← H2.out]
  gi_wp2
  refine range_law (m := 5) (by decide) rfl (Go.Proofs.enters_of Try.func81 (by kernel_rfl) rfl) HY.out rfl (RdI w w2.heap.size) (fun s A B i nc f => i.turn hwl nc f) HI0.out ?round ?done
  case round =>
    intro l pre x W hI hx hG hlt hnc
    obtain ⟨u, xs⟩ := x
    simp only at hx
    obtain ⟨v, kb, ho⟩ := hI.box
    obtain ⟨au, cu, rfl, -⟩ := hx.nums
    obtain ⟨va, vc, rfl⟩ := own_form ho.1
    have hpl : pre.length ≤ 64 := by
      have := hG.length_le
      simp at this
      omega
    have k9 := Blk.new W 70 #[.slice au xs.length cu]
    have fA : Fr W (W.alloc (.cells #[.slice au xs.length cu] 70)) (fun q => W.heap.size ≤ q) := (Fr.refl W _).al _
    have KK := Lib.hid (KeepsOthers.alloc W (.cells #[.slice au xs.length cu] 70))
    have kbA := kb.fr fA (by have := kb.lt; omega)
    have hoA := ho.fr fA (fun q _ h _ => by omega)
    have hxA := hx.fr fA (fun q hq => by have := (hx.ge q hq).2; omega)
    have HI := Lib.hid hI
    have K9 := Lib.hid k9
    have KB := Lib.hid kbA
    have HO := Lib.hid hoA
    have HX := Lib.hid hxA
    have FA := Lib.hid fA
    clear k9 kbA hoA hxA fA kb ho hx hI HY HI0 FIN HW1 H2 S2 S1 c0
    generalize hW1 : W.alloc (.cells #[.slice au xs.length cu] 70) = W1 at K9 KB HO HX FA KK
    have HW1' := Lib.hid hW1
    clear hW1
    dsimp only [encM]
    gi_wp2
    rw [HW1'.out]
    refine ⟨KK.out, ?_⟩
    intro W2 f2 n1 n2
    have k9 := K9.out.fr f2 (K9.out.nc n1)
    have kb2 := KB.out.fr f2 (KB.out.nc n1)
    have ho2 := HO.out.fr f2 (fun q _ _ ⟨c, t, k, _⟩ => k.nc n1)
    have hx2 := HX.out.fr f2 (own_nc HX.out n1)
    have F2 := Lib.hid ((FA.out.mono (Q := fun q => q = w.heap.size ∨ w2.heap.size ≤ q) (fun q _ h => .inr (Nat.le_trans HI.out.n h))).on (f2.mono (fun q _ h => .inr (by omega))))
    have z9 : W2.cell? ⟨W.heap.size, 0, none⟩ = some (.slice au xs.length cu) := k9.cell 0
    have zb : W2.cell? ⟨w.heap.size, 0, none⟩ = some (.slice va pre.length vc) := kb2.cell 0
    have hW2n : w2.heap.size ≤ W2.heap.size := Nat.le_trans HI.out.n F2.out.size
    have KB2 := Lib.hid kb2
    have HO2 := Lib.hid ho2
    have HX2 := Lib.hid hx2
    have HIb := Lib.hid HI.out.b
    clear k9 kb2 ho2 hx2 f2 n1 n2 K9 KB HO HX FA KK HI HW1'
    gi_wp2_with (gi_at_builtin; refine wpListIn_append_own _ rfl _ _ 35 rfl w2.heap.size 70 i0 (.agg #[.slice none 0 0]) 1 24 Try.underlying35 hi hz0 hz1 hz2 rfl (by decide) _ pre.length (pre.map (·.1)) rfl (HO2.out.1.alloc _) ⟨W2.heap.size, 0, none⟩ 1 1 [.slice au xs.length cu] rfl rfl newsM (by simp [Value.oneCell']) (by unfold maxLen; omega) (by omega) (by simp; omega) ?_; intro v' w3 hown hgrow _; obtain ⟨g', cap', rfl⟩ := ownsRow_succ hown; obtain ⟨r1, r2, r3, r4, r5⟩ := rd_step KB2.out HO2.out HX2.out hwl2 hown hgrow; have R1 := r1.cell 0; have R1f := r1.free 0; have R2 := Lib.hid r2; have R3 := Lib.hid r3; have R4 := Lib.hid r4; have R5 := Lib.hid r5; clear r1 r2 r3 r4 r5 hown hgrow)
    exact ⟨R4.out, F2.out.on R5.out, ⟨⟨_, R2.out, R3.out⟩, HIb.out.trans ((F2.out.on R5.out).below (fun q h => by rcases h with rfl | h <;> omega) HIb.out.size), Nat.le_trans hW2n R5.out.size⟩⟩
  case done =>
    intro ms W hS hI hD
    obtain ⟨v, kb, ho⟩ := hI.box
    obtain ⟨va, vc, rfl⟩ := own_form ho.1
    have hml : ms.length = SL.length := by rw [← hS, List.length_map]
    have hb := hI.b
    have HD := Lib.hid hD
    have KB := Lib.hid kb
    have HO := Lib.hid ho
    have HB := Lib.hid hb
    rw [hml] at KB
    have z6 : W.cell? ⟨w.heap.size, 0, none⟩ = some (.slice va SL.length vc) := KB.out.cell 0
    have f6 : W.frozen? ⟨w.heap.size, 0, none⟩ = false := KB.out.free 0
    have hw0 : ¬ (9223372036854775807 < from_ + (SL.length : Int)) := by omega
    clear hD kb ho hb hI HY HI0 HW1 H2 c0 S1 S2
    gi_wp2
    have f7 := fr_set W w.heap.size 0 (.slice va SL.length vc)
    have K7 := KB.out.set 0 (.slice va SL.length vc)
    have D7 := (KeepsOthers.setCell W ⟨w.heap.size, 0, none⟩ (.slice va SL.length vc)).same _ _ HD.out rfl
    have O7 := HO.out.fr f7 (fun q h _ e => by omega)
    have B7 := HB.out.setCell (p := ⟨w.heap.size, 0, none⟩) (Nat.le_refl _) (.slice va SL.length vc)
    generalize W.setCell ⟨w.heap.size, 0, none⟩ (.slice va SL.length vc) = W7 at *
    have nc7 : NC W7 w2.heap.size := fun c t z e => by rw [D7] at e; cases e
    have f8 := fr_putObj W7 w2.heap.size (.deferred none)
    have K8 := K7.fr f8 (K7.nc nc7)
    have O8 := (O7.fr f8 (fun q _ _ ⟨c, t, k, _⟩ => k.nc nc7)).drop hwl
    have B8 := B7.trans (f8.below (B := w.heap.size) (fun q e => by omega) B7.size)
    refine ⟨by simp, .inl ⟨_, _, rfl, run_takeDeferred D7, ?_⟩⟩
    have y0 := K8.cell 0
    refine ⟨_, (by simp [results, Try.results32, go_sem, y0]; try rfl), ?_⟩
    rw [hml] at O8
    exact FIN.out _ _ ms B8 hS O8
end Go.Proofs.Ytbghjcfepjbppaa.Bk
/-
  A book of the call's own; the page's example.
-/
namespace Go.Proofs.Ytbghjcfepjbppaa.Bk
open Go.RowKit
theorem bok_pt {base : Int} {LL : List (List Int)} (h : BOk base LL) (xs : List Int) : BOk (ptS base LL xs).1 (ptS base LL xs).2 := by
  have h0 := h.b0
  have h1 := h.b1
  have h2 := h.n
  unfold ptS
  by_cases hE : ptE base LL xs = 0
  · have hlt : base + LL.length < 549755813888 := by
      unfold ptE at hE
      by_cases hm : mayB xs = true
      · rw [if_pos hm] at hE
        by_cases hc : 549755813888 ≤ base + LL.length
        · rw [if_pos hc] at hE; exact absurd hE (by decide)
        · omega
      · rw [if_neg hm] at hE; exact absurd hE (by decide)
    rw [if_pos hE]
    by_cases h64 : LL.length = 64
    · rw [if_pos h64]
      refine ⟨by simp only; omega, ?_, ?_⟩
      · simp only [List.length_append, List.length_drop, List.length_cons, List.length_nil]; omega
      · simp only [List.length_append, List.length_drop, List.length_cons, List.length_nil]; omega
    · rw [if_neg h64]
      refine ⟨h0, ?_, ?_⟩
      · simp only [List.length_append, List.length_cons, List.length_nil]; omega
      · simp only [List.length_append, List.length_cons, List.length_nil]; omega
  · rw [if_neg hE]; exact h
theorem bok_fg {base : Int} {LL : List (List Int)} (h : BOk base LL) (b : Int) : BOk (fgS base LL b).1 (fgS base LL b).2 := by
  have h0 := h.b0
  have h1 := h.b1
  have h2 := h.n
  unfold fgS
  by_cases hc : b < 0 ∨ base + LL.length < b ∨ b ≤ base
  · rw [if_pos hc]; exact h
  · rw [if_neg hc]
    refine ⟨by simp only; omega, ?_, ?_⟩
    · simp only [List.length_drop]; omega
    · simp only [List.length_drop]; omega
/-- each match may be -/
def Shr (LL : List (List Int)) : Prop := ∀ xs ∈ LL, mayB xs = true
theorem upB_all : ∀ {l : List Int} {z : Int}, upB z l = true → ∀ x ∈ l, z < x ∧ x ≤ 549755813888
  | [], _, _, x, hx => by simp at hx
  | y :: r, z, h, x, hx => by
    unfold upB at h
    simp only [Bool.and_eq_true, Bool.not_eq_true', Bool.or_eq_false_iff, decide_eq_false_iff_not] at h
    obtain ⟨⟨h1, h2⟩, h3⟩ := h
    rcases List.mem_cons.1 hx with rfl | hx
    · omega
    · have := upB_all h3 x hx; omega
theorem mayB_len {xs : List Int} (h : mayB xs = true) : 1 ≤ xs.length ∧ xs.length ≤ 16 := by
  unfold mayB at h
  simp only [Bool.and_eq_true, Bool.not_eq_true', Bool.or_eq_false_iff, decide_eq_false_iff_not] at h
  omega
theorem mayB_all {xs : List Int} (h : mayB xs = true) : ∀ x ∈ xs, 0 ≤ x ∧ x ≤ 549755813888 := by
  unfold mayB at h
  simp only [Bool.and_eq_true] at h
  intro x hx
  have := upB_all h.2 x hx
  omega
theorem Shr.short {LL : List (List Int)} (h : Shr LL) : ∀ xs ∈ LL, xs.length ≤ 1000 := fun xs hx => by have := mayB_len (h xs hx); omega
theorem shr_pt {base : Int} {LL : List (List Int)} (h : Shr LL) (xs : List Int) : Shr (ptS base LL xs).2 := by
  unfold ptS
  by_cases hE : ptE base LL xs = 0
  · have hm : mayB xs = true := by
      unfold ptE at hE
      by_cases hm : mayB xs = true
      · exact hm
      · rw [if_neg hm] at hE; exact absurd hE (by decide)
    have hd : ∀ ys ∈ LL.drop 1 ++ [xs], mayB ys = true := fun ys hy => by
      rcases List.mem_append.1 hy with hy | hy
      · exact h ys (List.mem_of_mem_drop hy)
      · rw [List.mem_singleton.1 hy]; exact hm
    have ha : ∀ ys ∈ LL ++ [xs], mayB ys = true := fun ys hy => by
      rcases List.mem_append.1 hy with hy | hy
      · exact h ys hy
      · rw [List.mem_singleton.1 hy]; exact hm
    rw [if_pos hE]
    split
    · exact hd
    · exact ha
  · rw [if_neg hE]; exact h
theorem shr_fg {base : Int} {LL : List (List Int)} (h : Shr LL) (b : Int) : Shr (fgS base LL b).2 := by
  unfold fgS
  split
  · exact h
  · exact fun ys hy => h ys (List.mem_of_mem_drop hy)
/-- a book of the call's own, behind B -/
def Mine (w0 : World) (B t : Nat) (base : Int) (LL : List (List Int)) (w : World) : Prop := ∃ Bk, BookAt w Bk t base LL ∧ BOk base LL ∧ Shr LL ∧ (∀ q, Bk q → B ≤ q) ∧ Below B w0 w ∧ B ≤ w.heap.size
section
variable {w0 w w' : World} {B t : Nat} {base : Int} {LL : List (List Int)}
theorem Mine.next (h : Mine w0 B t base LL w) (b : Below w.heap.size w w') : Mine w0 B t base LL w' := by
  obtain ⟨Bk, hb, ok, sh, hB, hw, hs⟩ := h
  exact ⟨Bk, hb.next b, ok, sh, hB, hw.trans (b.mono hs), Nat.le_trans hs b.size⟩
theorem Mine.bel (h : Mine w0 B t base LL w) : Below B w0 w := by
  obtain ⟨Bk, hb, ok, sh, hB, hw, hs⟩ := h
  exact hw
theorem Mine.ok (h : Mine w0 B t base LL w) : BOk base LL := by
  obtain ⟨Bk, hb, ok, sh, hB, hw, hs⟩ := h
  exact ok
theorem mine_new (hb : Below B w0 w) (hB : B ≤ w.heap.size) : Calls Try.prog 28 #[] w fun e w' => e = .returned (.pointer (some ⟨w.heap.size, 0, none⟩)) ∧ Mine w0 B w.heap.size 0 [] w' := by
  refine (new_any w).mono ?_
  rintro e w' ⟨rfl, T, b⟩
  exact ⟨rfl, _, T, ⟨by decide, by decide, by decide⟩, fun _ h => by simp at h, fun q hq => by rw [hq]; exact hB, hb.trans (b.mono hB), Nat.le_trans hB b.size⟩
theorem Mine.put (h : Mine w0 B t base LL w) {a : Option Addr} {xs : List Int} (c : Nat) (hn : Nums w a xs) (hl : xs.length ≤ 1000) :
    Calls Try.prog 31 #[.pointer (some ⟨t, 0, none⟩), .agg #[.slice a xs.length c]] w fun e w' => e = .returned (.int .i64 (ptE base LL xs)) ∧ Mine w0 B t (ptS base LL xs).1 (ptS base LL xs).2 w' := by
  obtain ⟨Bk, hb, ok, sh, hB, hw, hs⟩ := h
  refine (put_any c hb ok hn hl).mono ?_
  rintro e w' ⟨rfl, Bk', hb', f, m1, m2⟩
  have hm : ∀ q, Bk' q → B ≤ q := fun q hq => by
    rcases m2 q hq with h | h
    · exact hB q h
    · omega
  exact ⟨rfl, Bk', hb', bok_pt ok xs, shr_pt sh xs, hm, hw.trans (f.below hB hs), Nat.le_trans hs f.size⟩
theorem Mine.forget (h : Mine w0 B t base LL w) (b : Int) : Calls Try.prog 33 #[.pointer (some ⟨t, 0, none⟩), .int .i64 b] w fun e w' => e = .returned (.int .i64 (fgE base LL b)) ∧ Mine w0 B t (fgS base LL b).1 (fgS base LL b).2 w' := by
  obtain ⟨Bk, hb, ok, sh, hB, hw, hs⟩ := h
  refine (forget_any b hb ok).mono ?_
  rintro e w' ⟨rfl, hb', f⟩
  exact ⟨rfl, Bk, hb', bok_fg ok b, shr_fg sh b, hB, hw.trans (f.below hB hs), Nat.le_trans hs f.size⟩
theorem Mine.end_ (h : Mine w0 B t base LL w) : Calls Try.prog 64 #[.pointer (some ⟨t, 0, none⟩)] w fun e w' => e = .returned (.int .i64 (base + LL.length)) ∧ Mine w0 B t base LL w' := by
  have h0 := h
  obtain ⟨Bk, hb, ok, sh, hB, hw, hs⟩ := h
  refine (end_any hb ok.b0 (by have := ok.b1; omega) (by have := ok.n; omega)).mono ?_
  rintro e w' ⟨rfl, b⟩
  exact ⟨rfl, h0.next b⟩
theorem Mine.read (h : Mine w0 B t base LL w) (x y : Int) (hx : x ≤ 9223372036854775807) : Calls Try.prog 32 #[.pointer (some ⟨t, 0, none⟩), .int .i64 x, .int .i64 y] w fun e w' => Rdd w base LL x y e w' ∧ Mine w0 B t base LL w' := by
  have h0 := h
  obtain ⟨Bk, hb, ok, sh, hB, hw, hs⟩ := h
  have fin : ∀ e w', Rdd w base LL x y e w' → Rdd w base LL x y e w' ∧ Mine w0 B t base LL w' := fun e w' hr => ⟨hr, h0.next hr.1⟩
  by_cases h1 : x < 0 ∨ y < 0
  · exact (read_bad base LL h1).mono fin
  · by_cases h2 : x < base
    · exact (read_gone hb (by omega) (by omega) h2).mono fin
    · exact (read_ok hb ok sh.short (by omega) (by omega) (by omega) hx).mono fin
end
theorem nums_one (w : World) (i : Int) : Nums (w.alloc (.cells #[.int .i64 i] 3)) (some ⟨w.heap.size, 0, none⟩) [i] := fun j hj => by
  have hj0 : j = 0 := by simpa using hj
  subst hj0
  exact ⟨w.heap.size, 0, rfl, by simp, (Blk.new w 3 #[.int .i64 i]).cell 0⟩
theorem OwnM.at_ {w : World} {B : Nat} {v : Value} {ms : List Mv} (h : OwnM w B v ms) {k : Nat} (hk : k < ms.length) : ∃ g c g2 c2, v = .slice (some ⟨g, 0, none⟩) ms.length c ∧ g < w.heap.size ∧ w.cell? ⟨g, k, none⟩ = some (.slice g2 ms[k].2.length c2) ∧ Nums w g2 ms[k].2 := by
  obtain ⟨a2, c2, e2, n2⟩ := (h.2 ms[k] (List.getElem_mem hk)).nums
  have h0 := h.1
  rcases h.1.2 with ⟨rfl, e⟩ | ⟨g, cap, cur, rfl, hb, hg, _⟩
  · omega
  · refine ⟨g, cap, a2, c2, rfl, (Array.getElem?_eq_some_iff.1 hg).1, ?_, n2⟩
    rw [h0.cellAt _ (by omega)]
    rw [List.getElem?_map, List.getElem?_eq_getElem hk, ← e2]
    rfl
theorem OwnM.form {w : World} {B : Nat} {v : Value} {ms : List Mv} (h : OwnM w B v ms) : ∃ a c, v = .slice a ms.length c := own_form h.1
theorem ms_one {ms : List Mv} {xs : List Int} (h : ms.map (·.2) = [xs]) : ∃ u, ms = [(u, xs)] := by
  match ms, h with
  | [(u, ys)], h => exact ⟨u, by simp at h; rw [h]⟩
theorem rdd_ok {w w' : World} {base : Int} {LL : List (List Int)} {x y : Int} {e : Ending} (h : Rdd w base LL x y e w') (hx : 0 ≤ x) (hy : 0 ≤ y) (hb : base ≤ x) :
    ∃ v ms, e = .returned (.tuple #[v, .int .i64 (x + (sub base LL x y).length), .int .i64 0]) ∧ ms.map (fun z : Mv => z.2) = sub base LL x y ∧ OwnM w' w.heap.size v ms ∧ Below w.heap.size w w' := by
  rcases h.2 with ⟨h1, _⟩ | ⟨_, h1, _⟩ | ⟨_, _, v, ms, r1, r2, r3⟩
  · omega
  · omega
  · exact ⟨v, ms, r1, r2, r3, h.1⟩
theorem rdd_gone {w w' : World} {base : Int} {LL : List (List Int)} {x y : Int} {e : Ending} (h : Rdd w base LL x y e w') (hx : 0 ≤ x) (hy : 0 ≤ y) (hb : x < base) :
    e = .returned (.tuple #[.slice none 0 0, .int .i64 base, .int .i64 180]) ∧ Below w.heap.size w w' := by
  rcases h.2 with ⟨h1, _⟩ | ⟨_, h1, r⟩ | ⟨_, h1, _⟩
  · omega
  · exact ⟨r, h.1⟩
  · omega
theorem rdd_bad {w w' : World} {base : Int} {LL : List (List Int)} {x y : Int} {e : Ending} (h : Rdd w base LL x y e w') (hy : x < 0 ∨ y < 0) :
    e = .returned (.tuple #[.slice none 0 0, .int .i64 0, .int .i64 1]) ∧ Below w.heap.size w w' := by
  rcases h.2 with ⟨_, r⟩ | ⟨h1, _⟩ | ⟨h1, _⟩
  · exact ⟨r, h.1⟩
  · omega
  · omega
/-- matches of one pick, that rise -/
def rowI (base : Int) (n : Nat) : List (List Int) := (List.range n).map (fun (i : Nat) => [base + (i : Int)])
theorem rowI_len (base : Int) (n : Nat) : (rowI base n).length = n := by simp [rowI]
theorem rowI_get (base : Int) (n i : Nat) (h : i < (rowI base n).length) : (rowI base n)[i] = [base + (i : Int)] := by simp [rowI]
theorem rowI_snoc (base : Int) (n : Nat) : rowI base n ++ [[base + (n : Int)]] = rowI base (n + 1) := by simp [rowI, List.range_succ]
theorem rowI_drop (base : Int) (n k : Nat) : (rowI base n).drop k = rowI (base + (k : Int)) (n - k) := by
  apply List.ext_getElem
  · simp [rowI]
  · intro i h1 h2
    rw [List.getElem_drop, rowI_get, rowI_get]
    congr 1
    omega
theorem rowI_take (base : Int) (n k : Nat) : (rowI base n).take k = rowI base (min k n) := by
  apply List.ext_getElem
  · simp [rowI]
  · intro i h1 h2
    rw [List.getElem_take, rowI_get, rowI_get]
theorem may_one {c : Int} (h0 : 0 ≤ c) (h1 : c ≤ 549755813888) : mayB [c] = true := by
  unfold mayB upB upB
  simp only [List.length_cons, List.length_nil]
  rw [decide_eq_false (show ¬ (0 + 1 < 1) by omega), decide_eq_false (show ¬ (16 < 0 + 1) by omega), decide_eq_false (show ¬ c ≤ -1 by omega), decide_eq_false (show ¬ 549755813888 < c by omega)]
  rfl
theorem pt_row {base : Int} {n : Nat} (h0 : 0 ≤ base) (hn : n ≤ 64) (hm : base + (n : Int) < 549755813888) : ptE base (rowI base n) [base + (n : Int)] = 0 ∧
    ptS base (rowI base n) [base + (n : Int)] = if n = 64 then (base + 1, rowI (base + 1) 64) else (base, rowI base (n + 1)) := by
  have hE : ptE base (rowI base n) [base + (n : Int)] = 0 := by
    unfold ptE
    rw [if_pos (may_one (by omega) (by omega)), rowI_len, if_neg (by omega)]
  refine ⟨hE, ?_⟩
  unfold ptS
  rw [if_pos hE, rowI_len]
  by_cases h64 : n = 64
  · subst h64
    rw [if_pos rfl, if_pos rfl, rowI_drop]
    have := rowI_snoc (base + 1) 63
    rw [show base + 1 + ((63 : Nat) : Int) = base + ((64 : Nat) : Int) by omega] at this
    exact congrArg (Prod.mk (base + 1)) this
  · rw [if_neg h64, if_neg h64, rowI_snoc]
theorem BN1 (W : World) (o : Obj) : Below W.heap.size W (W.alloc o) := (Below.refl W.heap.size W).alloc (Nat.le_refl _) o
end Go.Proofs.Ytbghjcfepjbppaa.Bk
/-
  WHAT IS READ HAS ONE FORM: written again it is the bytes that were read. Plain.
-/
namespace Go.Proofs.Ytbghjcfepjbppaa.Bt
open Go.RowKit
theorem bytes_ext {a b : ByteArray} (h : a.data.toList = b.data.toList) : a = b := ByteArray.ext (Array.toList_inj.1 h)
theorem cat_data (a b : ByteArray) : (a ++ b).data.toList = a.data.toList ++ b.data.toList := by simp
theorem ext_data (s : ByteArray) (k : Nat) : (s.extract k s.size).data.toList = s.data.toList.drop k := by
  rw [Lib.extract_data, List.take_of_length_le]
  rw [List.length_drop, ← Lib.size_eq]
  exact Nat.le_refl _
def u8l (l : List Int) : List UInt8 := l.map fun n => UInt8.ofNat n.toNat
theorem u8s_snoc (l : List Int) (n : Int) : u8l (l ++ [n]) = u8l l ++ [UInt8.ofNat n.toNat] := by simp [u8l]
theorem be_join (l : List UInt8) : u8l (be l.length (joinN l)) = l := by
  have h : ∀ (k : Nat) (l : List UInt8), l.length = k → u8l (be k (joinN l)) = l := by
    intro k
    induction k with
    | zero => intro l hl; rw [List.eq_nil_of_length_eq_zero hl]; rfl
    | succ k ih =>
      intro l hl
      have hne : l ≠ [] := fun e => by rw [e] at hl; simp at hl
      obtain ⟨m, b, rfl⟩ : ∃ m b, l = m ++ [b] := ⟨l.dropLast, l.getLast hne, (List.dropLast_concat_getLast hne).symm⟩
      have hb := b.toNat_lt
      have hm : m.length = k := by simpa using hl
      rw [joinN_snoc]
      have e1 : (((joinN m * 256 + b.toNat : Nat) : Int) / 256) = ((joinN m : Nat) : Int) := by omega
      have e2 : (((joinN m * 256 + b.toNat : Nat) : Int) % 256).toNat = b.toNat := by omega
      simp only [be]
      rw [u8s_snoc, e1, e2, ih m hm]
      simp
  exact h _ l rfl
theorem leastN_lt (k : Nat) (h : 2 ≤ k) : leastN k = 256 ^ (k - 1) := by unfold leastN; rw [if_neg (by omega)]
theorem wid_of {n : Nat} {k : Nat} (h1 : 1 ≤ k) (h2 : k ≤ 8) (hlo : leastN k ≤ n) (hhi : n < 256 ^ k) : wid (n : Int) = k := by
  have hk : k = 1 ∨ k = 2 ∨ k = 3 ∨ k = 4 ∨ k = 5 ∨ k = 6 ∨ k = 7 ∨ k = 8 := by omega
  rcases hk with rfl | rfl | rfl | rfl | rfl | rfl | rfl | rfl
  all_goals
    simp [leastN] at hlo hhi
    unfold wid
    repeat' split
    all_goals omega
/-- a number that is read, written again, is the bytes that were read -/
theorem num_one (l : List UInt8) (h : (rdNum l).2.2 = 0) : (numS ((rdNum l).1 : Int)).data.toList = l.take (rdNum l).2.1 := by
  unfold numS
  rw [strOfNums_data]
  match l with
  | [] => simp [rdNum] at h
  | b :: t =>
    have hb := b.toNat_lt
    simp only [rdNum] at h ⊢
    split at h
    · rename_i hb1
      rw [if_pos hb1]
      unfold numI
      rw [if_pos (by simp only; omega)]
      simp
    · rename_i hb1
      rw [if_neg hb1]
      split at h
      · simp at h
      · rename_i hlen
        rw [if_neg hlen]
        split at h
        · simp at h
        · rename_i hlo
          rw [if_neg hlo]
          simp only
          have htl : (t.take (b.toNat - 247)).length = b.toNat - 247 := by rw [List.length_take]; omega
          have hlt := joinN_lt (t.take (b.toNat - 247))
          rw [htl] at hlt
          have hw := wid_of (n := joinN (t.take (b.toNat - 247))) (k := b.toNat - 247) (by omega) (by omega) (by omega) hlt
          have hbe := be_join (t.take (b.toNat - 247))
          rw [htl] at hbe
          have hge : 248 ≤ leastN (b.toNat - 247) := by
            unfold leastN
            split
            · omega
            · exact Nat.le_trans (by decide : 248 ≤ 256 ^ 1) (Nat.pow_le_pow_right (by decide) (by omega))
          have e : (((247 + (b.toNat - 247) : Nat) : Int)).toNat = b.toNat := by omega
          have hn : ¬ ((joinN (t.take (b.toNat - 247)) : Nat) : Int) ≤ 247 := by omega
          unfold u8l at hbe
          unfold numI
          rw [if_neg hn, hw, List.map_cons, List.take_succ_cons, e, hbe]
          simp
theorem zig_unz (n : Nat) : Lib.zigzag (unz n) = n := by
  unfold unz Lib.zigzag
  split
  · rename_i h; rw [if_pos (by omega)]; omega
  · rename_i h; rw [if_neg (by omega)]; omega
theorem take_cat (s x : ByteArray) (k : Nat) (h : x.data.toList = s.data.toList.take k) : x ++ s.extract k s.size = s := by
  apply bytes_ext
  rw [cat_data, ext_data, h, List.take_append_drop]
theorem num_back (s : ByteArray) (h : (rdNum s.data.toList).2.2 = 0) : numS ((rdNum s.data.toList).1 : Int) ++ s.extract (rdNum s.data.toList).2.1 s.size = s := take_cat s _ _ (num_one _ h)
theorem int_back (s : ByteArray) (h : (rdInt s.data.toList).2.2 = 0) : intS (rdInt s.data.toList).1 ++ s.extract (rdInt s.data.toList).2.1 s.size = s := by
  unfold intS rdInt
  simp only [zig_unz]
  exact num_back s h
theorem real_back (s : ByteArray) (h : (rdReal s.data.toList).2.2 = 0) : realS (rdReal s.data.toList).1 ++ s.extract (rdReal s.data.toList).2.1 s.size = s := by
  apply take_cat
  unfold realS
  rw [strOfNums_data]
  unfold rdReal at h ⊢
  split at h
  · simp at h
  · rename_i h8
    rw [if_neg h8]
    split at h
    · simp at h
    · rename_i hc
      rw [if_neg hc]
      simp only
      rw [show codeN (joinN (s.data.toList.take 8)) = joinN (s.data.toList.take 8) by simpa using hc]
      have hb := be_join (s.data.toList.take 8)
      rw [show (s.data.toList.take 8).length = 8 by rw [List.length_take]; omega] at hb
      exact hb
theorem text_back (s : ByteArray) (most : Int) (h : (rdText s most).2.2 = 0) : textS (rdText s most).1 ++ s.extract (rdText s most).2.1 s.size = s := by
  rcases hR : rdNum s.data.toList with ⟨N, K, E⟩
  have hle := rdNum_le s
  have hone := num_one s.data.toList
  rw [hR] at hle hone
  rw [rdText_eq s most hR] at h ⊢
  split at h
  · rename_i hE; exact absurd h hE
  · rename_i hE
    rw [if_neg hE]
    split at h
    · simp at h
    · rename_i h2
      rw [if_neg h2]
      split at h
      · simp at h
      · rename_i h3
        rw [if_neg h3]
        simp only at hle hone ⊢
        apply take_cat
        have hsz : (s.extract K (K + N)).size = N := by simp; omega
        unfold textS
        rw [cat_data, hsz, hone (by simpa using hE), Lib.extract_data, List.take_add]
        congr 2
        omega
end Go.Proofs.Ytbghjcfepjbppaa.Bt
/-
  THE DOCUMENT'S OWN TAPE: a number at the front.
-/
namespace Go.Proofs.Ytbghjcfepjbppaa.Bt
open Go.RowKit Go.Sort
theorem mixed : Try.prog.follows .mixedOrders = true := by kernel_rfl
theorem numS_len (n : Int) : (numS n).size = if n ≤ 247 then 1 else wid n + 1 := by
  unfold numS numI
  rw [strOfNums_size]
  split
  · simp
  · rw [List.length_cons, be_len]
theorem wid_small {n k : Nat} (h1 : 1 ≤ k) (h2 : k ≤ 8) (h : n < leastN k) (h3 : 247 < n) : wid (n : Int) < k := by
  have hk : k = 1 ∨ k = 2 ∨ k = 3 ∨ k = 4 ∨ k = 5 ∨ k = 6 ∨ k = 7 ∨ k = 8 := by omega
  rcases hk with rfl | rfl | rfl | rfl | rfl | rfl | rfl | rfl
  all_goals
    simp [leastN] at h
    unfold wid
    repeat' split
    all_goals omega
theorem num_form (s : ByteArray) (k : Nat) (h0 : 0 < s.size) (hk : s[0].toNat = 247 + k) (h1 : 1 ≤ k) (hs : k + 1 ≤ s.size) :
    numS (joinN ((s.data.toList.drop 1).take k) : Nat) = s.extract 0 (k + 1) ↔ ¬ joinN ((s.data.toList.drop 1).take k) < leastN k := by
  have hb := s[0].toNat_lt
  have hd := head_drop s h0
  have hlen : (s.data.toList.drop 1).length = s.size - 1 := by rw [List.length_drop, ← Lib.size_eq]
  have hrd : rdNum s.data.toList = if joinN ((s.data.toList.drop 1).take k) < leastN k then (0, 0, 3) else (joinN ((s.data.toList.drop 1).take k), k + 1, 0) := by
    rw [hd]
    simp only [rdNum]
    rw [if_neg (by omega), show s[0].toNat - 247 = k by omega]
    simp only [List.drop_succ_cons, List.drop_zero]
    rw [if_neg (by omega)]
  constructor
  · intro he hlt
    have e1 := congrArg ByteArray.size he
    rw [numS_len] at e1
    have e3 : (s.extract 0 (k + 1)).size = k + 1 := by rw [ByteArray.size_extract]; omega
    rw [e3] at e1
    split at e1
    · omega
    · have := wid_small h1 (by omega) hlt (by omega)
      omega
  · intro hlt
    rw [if_neg hlt] at hrd
    have := num_one s.data.toList (by rw [hrd])
    rw [hrd] at this
    apply bytes_ext
    rw [Lib.extract_data, List.drop_zero, Nat.sub_zero]
    exact this
theorem join_next (s : ByteArray) (j : Nat) (h : j + 1 < s.size) : joinN ((s.data.toList.drop 1).take (j + 1)) = joinN ((s.data.toList.drop 1).take j) * 256 + s[j + 1].toNat := by
  have hl : j < (s.data.toList.drop 1).length := by rw [List.length_drop, ← Lib.size_eq]; omega
  rw [List.take_succ_eq_append_getElem hl, joinN_snoc, List.getElem_drop]
  simp only [Nat.add_comm 1 j]
  rfl
def aheadV (x : Nat × Nat × Int) : Value := .tuple #[.int .u64 (x.1 : Int), .int .i64 (x.2.1 : Int), .int .i64 x.2.2]
end Go.Proofs.Ytbghjcfepjbppaa.Bt
/-
  THE DOCUMENT'S OWN TAPE: its calls.
-/
namespace Go.Proofs.Ytbghjcfepjbppaa.Bt
open Go.RowKit Go.Sort
/-- a tape of the document, and what it answers -/
def tp (s : ByteArray) (e : Int) : Value := .agg #[.string s, .int .i64 e]
def rv {α : Type} (x : α × ByteArray × Int) (v : Value) : Value := .tuple #[.agg #[.string x.2.1, .int .i64 x.2.2], v]
theorem extract_all (s : ByteArray) : s.extract 0 s.size = s := bytes_ext (by rw [Lib.extract_data, List.drop_zero, Nat.sub_zero, List.take_of_length_le (by rw [← Lib.size_eq]; exact Nat.le_refl _)])
section
variable {w w' : World} {b : Nat} {s s' : ByteArray} {e e' : Int}
end
theorem tInt_of (s : ByteArray) (e : Int) : tInt s e = (unz (tNum s e).1, (tNum s e).2) := by
  unfold tInt tNum tk rdInt
  split
  · simp [unz]
  · dsimp only
    split
    · simp [unz]
    · rfl
theorem tNum_lt (s : ByteArray) (e : Int) : (tNum s e).1 < 18446744073709551616 := by
  have hf := (rdNum_facts s.data.toList).1
  unfold tNum tk
  split
  · exact (by decide : (0 : Nat) < 18446744073709551616)
  · split
    · exact (by decide : (0 : Nat) < 18446744073709551616)
    · exact hf
/-- a real number -/
theorem take8_next (s : ByteArray) (j : Nat) (h : j < s.size) : joinN (s.data.toList.take (j + 1)) = joinN (s.data.toList.take j) * 256 + s[j].toNat := by
  have hl : j < s.data.toList.length := by rw [← Lib.size_eq]; exact h
  rw [List.take_succ_eq_append_getElem hl, joinN_snoc]
  rfl
end Go.Proofs.Ytbghjcfepjbppaa.Bt
/-
  Reading a book, plainly; takeMatch 32.
-/
namespace Go.Proofs.Ytbghjcfepjbppaa.Bk
open Go.RowKit
abbrev Tp := ByteArray × Int
/-- a number off a tape -/
def pn (t : Tp) : Nat × Tp := Bt.tNum t.1 t.2
def pNs : Nat → Tp → List Int × Tp
  | 0, t => ([], t)
  | k + 1, t => ((pNs k t).1 ++ [IntKind.i64.wrap ((pn (pNs k t).2).1 : Int)], (pn (pNs k t).2).2)
/-- a match off a tape -/
def pMt (t : Tp) : List Int × Tp := pNs (min (pn t).1 17) (pn t).2
theorem pNs_len (k : Nat) (t : Tp) : (pNs k t).1.length = k := by
  induction k with
  | zero => rfl
  | succ k ih => show ((pNs k t).1 ++ [_]).length = _; rw [List.length_append, ih]; rfl
theorem pn_le (t : Tp) : (pn t).2.1.size ≤ t.1.size := by
  unfold pn Bt.tNum
  by_cases he : t.2 = 0
  · rw [he]
    rcases hR : Bt.rdNum t.1.data.toList with ⟨v, k, e⟩
    by_cases h : e = 0
    · subst h
      rw [Bt.tk_ok]
      show (t.1.extract k t.1.size).size ≤ _
      rw [ByteArray.size_extract]; omega
    · rw [Bt.tk_bad _ _ _ _ h]; exact Nat.le_refl _
  · rw [Bt.tk_stays _ _ _ he]; exact Nat.le_refl _
theorem pNs_le (k : Nat) (t : Tp) : (pNs k t).2.1.size ≤ t.1.size := by
  induction k with
  | zero => exact Nat.le_refl _
  | succ k ih => exact Nat.le_trans (pn_le _) ih
theorem pMt_le (t : Tp) : (pMt t).2.1.size ≤ t.1.size := Nat.le_trans (pNs_le _ _) (pn_le t)
theorem pn_lt (t : Tp) : (pn t).1 < 18446744073709551616 := Bt.tNum_lt t.1 t.2
theorem tape_num {w : World} {b : Nat} {t : Tp} (h : Bt.TapeAt w b t.1 t.2) (hs : t.1.size ≤ 281474976710656) :
    Calls Try.prog 60 #[.pointer (some ⟨b, 0, none⟩)] w fun r w' => r = .returned (.int .u64 ((pn t).1 : Int)) ∧ Fr w w' (fun q => q = b) ∧ Bt.TapeAt w' b (pn t).2.1 (pn t).2.2 :=
  (Bt.tapeNum_any h hs).mono fun r w' ⟨h1, h2, h3⟩ => ⟨h1, (Fr.of_grown h2).mono (fun q _ e => by cases e; rfl), h3⟩
theorem tape_fr {w w' : World} {b : Nat} {s : ByteArray} {e : Int} {P : Nat → Prop} (h : Bt.TapeAt w b s e) (f : Fr w w' P) (hP : ¬ P b) : Bt.TapeAt w' b s e := (f.block b h.lt hP).trans h
/-- taking a match: between two picks -/
structure Tkm (w wr : World) (b : Nat) (t : Tp) (xs : List Int) (v : Value) : Prop where
  y : Blk wr w.heap.size 70 #[.slice none 0 0]
  m : Blk wr (w.heap.size + 1) 70 #[v]
  o : OwnN wr (w.heap.size + 2) v xs
  t : Bt.TapeAt wr b t.1 t.2
  f : Fr w wr (fun q => q = b)
theorem one_int (x : Int) : ∀ u ∈ [Value.int .i64 x], u.oneCell' = true := fun u hu => by rw [List.mem_singleton.1 hu]; rfl
theorem news_int (W : World) (x : Int) : ∀ j u, ([Value.int .i64 x] : List Value)[j]? = some u → (W.alloc (.cells #[.int .i64 x] 3)).cell? ((⟨W.heap.size, 0, none⟩ : Addr).add j) = some u := by
  intro j u hj
  match j, hj with
  | 0, hj => rw [addr_add, (Blk.new W 3 #[.int .i64 x]).cell]; exact hj
/-- a pick is put behind the others -/
theorem Tkm.push {w w2 w3 : World} {b : Nat} {t : Tp} {xs : List Int} {v v' : Value} {x : Int} (h : Tkm w w2 b t xs v)
    (hown : w3.ownsRow (w.heap.size + 2) 3 1 v' (xs.length + 1) (xs.map (Value.int .i64) ++ [.int .i64 x])) (hg : (w2.alloc (.cells #[.int .i64 x] 3)).grownBy w3 v.ownBlock) (hb : b < w.heap.size) :
    Blk w3 (w.heap.size + 1) 70 #[v] ∧ Tkm w (w3.setCell ⟨w.heap.size + 1, 0, none⟩ v') b t (xs ++ [x]) v' := by
  have bA : Below w2.heap.size w2 (w2.alloc (.cells #[.int .i64 x] 3)) := (Below.refl _ _).alloc (Nat.le_refl _) _
  have f3 : Fr w2 w3 (fun q => v.ownBlock = some q) := (Fr.of_below bA _).on ((Fr.of_grown hg).mono (fun q _ e => e.symm))
  have hv : ∀ q, v.ownBlock = some q → w.heap.size + 2 ≤ q := fun q hq => (h.o.ge q hq).1
  have hv' : ∀ q, v'.ownBlock = some q → w.heap.size + 2 ≤ q := fun q hq => (World.ownsRow.lt hown q hq).1
  have m3 := h.m.fr f3 (fun e => by have := hv _ e; omega)
  have fs := fr_set w3 (w.heap.size + 1) 0 v'
  have t3 := tape_fr h.t f3 (fun e => by have := hv _ e; omega)
  have F : Fr w (w3.setCell ⟨w.heap.size + 1, 0, none⟩ v') (fun q => q = b) := (h.f.trans f3 (fun _ _ h => h) (fun q hq e => by have := hv q e; omega)).trans fs (fun _ _ h => h) (fun q hq e => by omega)
  refine ⟨m3, (h.y.fr f3 (fun e => by have := hv _ e; omega)).fr fs (by omega), m3.set 0 v', ?_, tape_fr t3 fs (by omega), F⟩
  have o4 := Fr.own hown fs (fun q hq e => by have := hv' q hq; omega)
  unfold OwnN
  rw [List.length_append, List.map_append]
  exact o4
/-- what takeMatch leaves -/
def Tkd (w : World) (b : Nat) (t : Tp) (e : Ending) (w' : World) : Prop := ∃ u, e = .returned (.agg #[u]) ∧ OwnN w' w.heap.size u (pMt t).1 ∧ Bt.TapeAt w' b (pMt t).2.1 (pMt t).2.2 ∧ Fr w w' (fun q => q = b)
set_option maxHeartbeats 8000000 in
set_option maxRecDepth 100000 in
theorem take_any {w : World} {b : Nat} {t : Tp} (h : Bt.TapeAt w b t.1 t.2) (hs : t.1.size ≤ 281474976710656) : Calls Try.prog 61 #[.pointer (some ⟨b, 0, none⟩)] w (Tkd w b t) := by
  have hb := h.lt
  obtain ⟨W, hW⟩ : ∃ W, W = (w.alloc (.cells #[.slice none 0 0] 70)).alloc (.cells #[.slice none 0 0] 70) := ⟨_, rfl⟩
  have z1 : (w.alloc (.cells #[.slice none 0 0] 70)).heap.size = w.heap.size + 1 := by simp
  have kY1 := Blk.new w 70 #[.slice none 0 0]
  have kM1 := Blk.new (w.alloc (.cells #[.slice none 0 0] 70)) 70 #[.slice none 0 0]
  have bA := (Below.refl w.heap.size w).alloc (Nat.le_refl _) (.cells #[.slice none 0 0] 70)
  have bB := (Below.refl (w.heap.size + 1) (w.alloc (.cells #[.slice none 0 0] 70))).alloc (by simp) (.cells #[.slice none 0 0] 70)
  rw [z1] at kM1
  rw [← hW] at kM1 bB
  have kY2 := kY1.below bB (by omega)
  have bW : Below w.heap.size w W := bA.trans (bB.mono (by omega))
  have hWs : W.heap.size = w.heap.size + 2 := by rw [hW]; simp
  have tW := h.next bW
  obtain ⟨n0, t1, hn⟩ : ∃ n0 t1, pn t = (n0, t1) := ⟨_, _, rfl⟩
  have HN := Lib.hid (tape_num tW hs)
  have hts : t1.1.size ≤ 281474976710656 := by
    have := pn_le t
    rw [hn] at this
    exact Nat.le_trans this hs
  have hnl : n0 < 18446744073709551616 := by have := pn_lt t; rw [hn] at this; exact this
  rw [hn] at HN
  simp only at HN
  obtain ⟨N, hN⟩ : ∃ N, N = min n0 17 := ⟨_, rfl⟩
  have hMT : Hid (pMt t = pNs N t1) := Lib.hid (by unfold pMt; rw [hn, hN])
  have hNl : N ≤ 17 := by rw [hN]; exact Nat.min_le_right _ _
  have hmin : (if (17 : Int) < (n0 : Int) then (17 : Int) else (n0 : Int)) = (N : Int) := by
    rw [hN]
    by_cases h17 : 17 ≤ n0
    · rw [Nat.min_eq_right h17]; split <;> omega
    · rw [Nat.min_eq_left (by omega)]; split <;> omega
  have S0 : Hid (∀ w1, Fr W w1 (fun q => q = b) → Bt.TapeAt w1 b t1.1 t1.2 → Tkm w w1 b (pNs 0 t1).2 (pNs 0 t1).1 (.slice none 0 0)) := Lib.hid fun w1 f ht => ⟨kY2.fr f (by omega), kM1.fr f (by omega), World.ownsRow_nil _ _ _ _, ht, (Fr.of_below bW _).on f⟩
  have FIN : Hid (∀ w5 u, Blk w5 w.heap.size 70 #[u] → OwnN w5 w.heap.size u (pNs N t1).1 → Bt.TapeAt w5 b (pNs N t1).2.1 (pNs N t1).2.2 → Fr w w5 (fun q => q = b) → Tkd w b t (.returned (.agg #[u])) w5) := Lib.hid fun w5 u _ ho ht hf => ⟨u, rfl, by rw [hMT.out]; exact ho, by rw [hMT.out]; exact ht, hf⟩
  have NUM := Lib.hid (fun (V : World) (k : Nat) (hV : Bt.TapeAt V b (pNs k t1).2.1 (pNs k t1).2.2) => tape_num (t := (pNs k t1).2) hV (Nat.le_trans (pNs_le k t1) hts))
  obtain ⟨i3, hi3, hz30, hz31, hz32⟩ := info_parts info3
  have HW := Lib.hid hW
  clear z1 kY1 kM1 bA bB kY2 bW hW tW h hs hn hN hMT
  by_cases h17 : (17 : Int) < (n0 : Int)
  · have h17B := decide_eq_true h17
    have hN17 : N = 17 := by rw [if_pos h17] at hmin; omega
    clear hmin
    go_enter Try.func61, Try.ntmps61
    go_wp2_with (rw [← HW.out])
    refine HN.out.mono ?_
    rintro e w1 ⟨rfl, f1, tt1⟩
    have S1 := Lib.hid (S0.out w1 f1 tt1)
    clear f1 tt1 S0 HN HW
    go_wp2_with fail
    go_loopw [7] (fun i wr => ∃ (j : Nat) (v : Value), i = .int .u64 j ∧ j ≤ N ∧ Hid (Tkm w wr b (pNs j t1).2 (pNs j t1).1 v)) (fun i _ => N - (intOf i).toNat)
    case atStart => exact ⟨0, _, rfl, Nat.zero_le _, S1⟩
    case round =>
      obtain ⟨j, v, rfl, hj, hS⟩ := hrel
      clear S1
      by_cases hjN : j < N
      · have hjI : (j : Int) < 17 := by omega
        have hjB := decide_eq_true hjI
        have HNUM := Lib.hid (NUM.out wr.drew j hS.out.t)
        obtain ⟨nj, tj, hnj⟩ : ∃ nj tj, pn (pNs j t1).2 = (nj, tj) := ⟨_, _, rfl⟩
        have NX : Hid (pNs (j + 1) t1 = ((pNs j t1).1 ++ [IntKind.i64.wrap (nj : Int)], tj)) := Lib.hid (by
          show ((pNs j t1).1 ++ [IntKind.i64.wrap ((pn (pNs j t1).2).1 : Int)], (pn (pNs j t1).2).2) = _
          rw [hnj])
        rw [hnj] at HNUM
        simp only at HNUM
        have hlen := pNs_len j t1
        obtain ⟨a0, c0, hv, -⟩ := hS.out.o.nums
        rw [hlen] at hv
        subst hv
        have HL := Lib.hid hlen
        have STEP : Hid (∀ w2, Fr wr.drew w2 (fun q => q = b) → Bt.TapeAt w2 b tj.1 tj.2 → Tkm w w2 b tj (pNs j t1).1 (.slice a0 j c0)) := Lib.hid fun w2 f ht => by
          have f' : Fr wr w2 (fun q => q = b) := (fr_drew wr _).on f
          exact ⟨hS.out.y.fr f' (by omega), hS.out.m.fr f' (by omega), hS.out.o.fr f' (fun q hq e => by have := (hS.out.o.ge q hq).1; omega), ht, hS.out.f.on f'⟩
        have c1 : wr.cell? ⟨w.heap.size + 1, 0, none⟩ = some (.slice a0 j c0) := hS.out.m.cell 0
        have f1 : wr.frozen? ⟨w.heap.size + 1, 0, none⟩ = false := hS.out.m.free 0
        have hYw : w.heap.size + 1 < wr.heap.size := hS.out.m.lt
        clear hnj hlen NUM hS FIN
        generalize (pNs j t1).1 = xs at *
        go_wp2_with fail
        go_region_law (first
          | (refine step_append_lies _ rfl (.tmp 10) (.tmp 14) 55 rfl (w.heap.size + 2) 3 i3 _ 1 8 Try.underlying55 hi3 hz30 hz31 hz32 rfl (by decide) (.slice a0 j c0) j (xs.map (Value.int .i64)) rfl (World.ownsRow.alloc OW2.out _) ⟨w2.heap.size, 0, none⟩ 1 1 [.int .i64 (IntKind.i64.wrap (nj : Int))] rfl rfl (news_int w2 (IntKind.i64.wrap (nj : Int))) (one_int (IntKind.i64.wrap (nj : Int))) (by decide) (by unfold maxLen; omega) (by omega) (by simp; omega) _ rfl ?_; intro g cap w3 ho hg _ _; have P3 := T2.out.push (v' := .slice (some ⟨g, 0, none⟩) (j + 1) cap) (by rw [HL.out]; exact ho) hg hb; have d3 : w3.cell? ⟨w.heap.size + 1, 0, none⟩ = some (.slice a0 j c0) := P3.1.cell 0; have e3 := P3.1.free 0; have P3h := Lib.hid P3.2; clear P3 ho hg)
          | (go_simp; refine HNUM.out.mono ?_; rintro e w2 ⟨rfl, f2, tt2⟩; have T2 := Lib.hid (STEP.out w2 f2 tt2); have OW2 : Hid (w2.ownsRow (w.heap.size + 2) 3 1 (.slice a0 j c0) j (xs.map (Value.int .i64))) := Lib.hid (by have := T2.out.o; unfold OwnN at this; rw [HL.out] at this; exact this); have d2 : w2.cell? ⟨w.heap.size + 1, 0, none⟩ = some (.slice a0 j c0) := T2.out.m.cell 0; have d2a : (w2.alloc (.cells #[.int .i64 (IntKind.i64.wrap (nj : Int))] 3)).cell? ⟨w.heap.size + 1, 0, none⟩ = some (.slice a0 j c0) := (T2.out.m.next ((Below.refl _ _).alloc (Nat.le_refl _) _)).cell 0; have hY2 : w.heap.size + 1 < w2.heap.size := T2.out.m.lt; clear f2 tt2))
        all_goals
          generalize w3.setCell ⟨w.heap.size + 1, 0, none⟩ (.slice (some ⟨g, 0, none⟩) (j + 1) cap) = w4 at *
          clear d3 e3 d2 d2a c1 f1 T2 OW2
          go_wp2_with fail
          go_roundw
          case rel => exact ⟨j + 1, _, by go_num, by omega, Lib.hid (by rw [NX.out]; exact P3h.out)⟩
          case measure => simp [intOf]; omega
      · obtain rfl : j = N := by omega
        have hjI : ¬ (j : Int) < 17 := by omega
        clear hN17
        have hlen := pNs_len j t1
        obtain ⟨a0, c0, hv, -⟩ := hS.out.o.nums
        rw [hlen] at hv
        subst hv
        have c1 : wr.cell? ⟨w.heap.size + 1, 0, none⟩ = some (.slice a0 j c0) := hS.out.m.cell 0
        have c0' : wr.cell? ⟨w.heap.size, 0, none⟩ = some (.slice none 0 0) := hS.out.y.cell 0
        have f0 : wr.frozen? ⟨w.heap.size, 0, none⟩ = false := hS.out.y.free 0
        have fs := fr_set wr w.heap.size 0 (.slice a0 j c0)
        have FF : Hid (Tkd w b t (.returned (.agg #[.slice a0 j c0])) (wr.setCell ⟨w.heap.size, 0, none⟩ (.slice a0 j c0)) ∧ Blk (wr.setCell ⟨w.heap.size, 0, none⟩ (.slice a0 j c0)) w.heap.size 70 #[.slice a0 j c0]) := Lib.hid ⟨FIN.out _ _ (hS.out.y.set 0 _) ((hS.out.o.drop (w' := w) (by omega)).fr fs (fun q hq e => by have := (hS.out.o.ge q hq).1; omega)) (tape_fr hS.out.t fs (by omega)) (hS.out.f.trans fs (fun _ _ h => h) (fun q hq e => by omega)), hS.out.y.set 0 _⟩
        clear hS FIN NUM hlen fs
        go_wp2_with fail
        have y0 : (wr.setCell ⟨w.heap.size, 0, none⟩ (.slice a0 j c0)).cell? ⟨w.heap.size, 0, none⟩ = some (.slice a0 j c0) := FF.out.2.cell 0
        have F1 := FF.out.1
        clear FF c1 c0' f0
        generalize wr.setCell ⟨w.heap.size, 0, none⟩ (.slice a0 j c0) = w5 at *
        refine bodyPost_ret (by simp [results, Try.results61, go_sem, y0]; try rfl) rfl ?_
        exact F1
  · have h17B := decide_eq_false h17
    obtain rfl : N = n0 := by rw [if_neg h17] at hmin; omega
    clear hmin
    go_enter Try.func61, Try.ntmps61
    go_wp2_with (rw [← HW.out])
    refine HN.out.mono ?_
    rintro e w1 ⟨rfl, f1, tt1⟩
    have S1 := Lib.hid (S0.out w1 f1 tt1)
    clear f1 tt1 S0 HN HW
    go_wp2_with fail
    go_loopw [7] (fun i wr => ∃ (j : Nat) (v : Value), i = .int .u64 j ∧ j ≤ N ∧ Hid (Tkm w wr b (pNs j t1).2 (pNs j t1).1 v)) (fun i _ => N - (intOf i).toNat)
    case atStart => exact ⟨0, _, rfl, Nat.zero_le _, S1⟩
    case round =>
      obtain ⟨j, v, rfl, hj, hS⟩ := hrel
      clear S1
      by_cases hjN : j < N
      · have hjI : (j : Int) < (N : Int) := by omega
        have hjB := decide_eq_true hjI
        have HNUM := Lib.hid (NUM.out wr.drew j hS.out.t)
        obtain ⟨nj, tj, hnj⟩ : ∃ nj tj, pn (pNs j t1).2 = (nj, tj) := ⟨_, _, rfl⟩
        have NX : Hid (pNs (j + 1) t1 = ((pNs j t1).1 ++ [IntKind.i64.wrap (nj : Int)], tj)) := Lib.hid (by
          show ((pNs j t1).1 ++ [IntKind.i64.wrap ((pn (pNs j t1).2).1 : Int)], (pn (pNs j t1).2).2) = _
          rw [hnj])
        rw [hnj] at HNUM
        simp only at HNUM
        have hlen := pNs_len j t1
        obtain ⟨a0, c0, hv, -⟩ := hS.out.o.nums
        rw [hlen] at hv
        subst hv
        have HL := Lib.hid hlen
        have STEP : Hid (∀ w2, Fr wr.drew w2 (fun q => q = b) → Bt.TapeAt w2 b tj.1 tj.2 → Tkm w w2 b tj (pNs j t1).1 (.slice a0 j c0)) := Lib.hid fun w2 f ht => by
          have f' : Fr wr w2 (fun q => q = b) := (fr_drew wr _).on f
          exact ⟨hS.out.y.fr f' (by omega), hS.out.m.fr f' (by omega), hS.out.o.fr f' (fun q hq e => by have := (hS.out.o.ge q hq).1; omega), ht, hS.out.f.on f'⟩
        have c1 : wr.cell? ⟨w.heap.size + 1, 0, none⟩ = some (.slice a0 j c0) := hS.out.m.cell 0
        have f1 : wr.frozen? ⟨w.heap.size + 1, 0, none⟩ = false := hS.out.m.free 0
        have hYw : w.heap.size + 1 < wr.heap.size := hS.out.m.lt
        clear hnj hlen NUM hS FIN
        generalize (pNs j t1).1 = xs at *
        go_wp2_with fail
        go_region_law (first
          | (refine step_append_lies _ rfl (.tmp 10) (.tmp 14) 55 rfl (w.heap.size + 2) 3 i3 _ 1 8 Try.underlying55 hi3 hz30 hz31 hz32 rfl (by decide) (.slice a0 j c0) j (xs.map (Value.int .i64)) rfl (World.ownsRow.alloc OW2.out _) ⟨w2.heap.size, 0, none⟩ 1 1 [.int .i64 (IntKind.i64.wrap (nj : Int))] rfl rfl (news_int w2 (IntKind.i64.wrap (nj : Int))) (one_int (IntKind.i64.wrap (nj : Int))) (by decide) (by unfold maxLen; omega) (by omega) (by simp; omega) _ rfl ?_; intro g cap w3 ho hg _ _; have P3 := T2.out.push (v' := .slice (some ⟨g, 0, none⟩) (j + 1) cap) (by rw [HL.out]; exact ho) hg hb; have d3 : w3.cell? ⟨w.heap.size + 1, 0, none⟩ = some (.slice a0 j c0) := P3.1.cell 0; have e3 := P3.1.free 0; have P3h := Lib.hid P3.2; clear P3 ho hg)
          | (go_simp; refine HNUM.out.mono ?_; rintro e w2 ⟨rfl, f2, tt2⟩; have T2 := Lib.hid (STEP.out w2 f2 tt2); have OW2 : Hid (w2.ownsRow (w.heap.size + 2) 3 1 (.slice a0 j c0) j (xs.map (Value.int .i64))) := Lib.hid (by have := T2.out.o; unfold OwnN at this; rw [HL.out] at this; exact this); have d2 : w2.cell? ⟨w.heap.size + 1, 0, none⟩ = some (.slice a0 j c0) := T2.out.m.cell 0; have d2a : (w2.alloc (.cells #[.int .i64 (IntKind.i64.wrap (nj : Int))] 3)).cell? ⟨w.heap.size + 1, 0, none⟩ = some (.slice a0 j c0) := (T2.out.m.next ((Below.refl _ _).alloc (Nat.le_refl _) _)).cell 0; have hY2 : w.heap.size + 1 < w2.heap.size := T2.out.m.lt; clear f2 tt2))
        all_goals
          generalize w3.setCell ⟨w.heap.size + 1, 0, none⟩ (.slice (some ⟨g, 0, none⟩) (j + 1) cap) = w4 at *
          clear d3 e3 d2 d2a c1 f1 T2 OW2
          go_wp2_with fail
          go_roundw
          case rel => exact ⟨j + 1, _, by go_num, by omega, Lib.hid (by rw [NX.out]; exact P3h.out)⟩
          case measure => simp [intOf]; omega
      · obtain rfl : j = N := by omega
        have hjI : ¬ (j : Int) < (j : Int) := by omega
        have hlen := pNs_len j t1
        obtain ⟨a0, c0, hv, -⟩ := hS.out.o.nums
        rw [hlen] at hv
        subst hv
        have c1 : wr.cell? ⟨w.heap.size + 1, 0, none⟩ = some (.slice a0 j c0) := hS.out.m.cell 0
        have c0' : wr.cell? ⟨w.heap.size, 0, none⟩ = some (.slice none 0 0) := hS.out.y.cell 0
        have f0 : wr.frozen? ⟨w.heap.size, 0, none⟩ = false := hS.out.y.free 0
        have fs := fr_set wr w.heap.size 0 (.slice a0 j c0)
        have FF : Hid (Tkd w b t (.returned (.agg #[.slice a0 j c0])) (wr.setCell ⟨w.heap.size, 0, none⟩ (.slice a0 j c0)) ∧ Blk (wr.setCell ⟨w.heap.size, 0, none⟩ (.slice a0 j c0)) w.heap.size 70 #[.slice a0 j c0]) := Lib.hid ⟨FIN.out _ _ (hS.out.y.set 0 _) ((hS.out.o.drop (w' := w) (by omega)).fr fs (fun q hq e => by have := (hS.out.o.ge q hq).1; omega)) (tape_fr hS.out.t fs (by omega)) (hS.out.f.trans fs (fun _ _ h => h) (fun q hq e => by omega)), hS.out.y.set 0 _⟩
        clear hS FIN NUM hlen fs
        go_wp2_with fail
        have y0 : (wr.setCell ⟨w.heap.size, 0, none⟩ (.slice a0 j c0)).cell? ⟨w.heap.size, 0, none⟩ = some (.slice a0 j c0) := FF.out.2.cell 0
        have F1 := FF.out.1
        clear FF c1 c0' f0
        generalize wr.setCell ⟨w.heap.size, 0, none⟩ (.slice a0 j c0) = w5 at *
        refine bodyPost_ret (by simp [results, Try.results61, go_sem, y0]; try rfl) rfl ?_
        exact F1
end Go.Proofs.Ytbghjcfepjbppaa.Bk
/-
  The book: Load 18.
-/
namespace Go.Proofs.Ytbghjcfepjbppaa.Bk
open Go.RowKit
def pLd (base : Int) : Nat → Tp → Option (List (List Int) × Tp)
  | 0, t => some ([], t)
  | k + 1, t => (pLd base k t).bind fun r => if ptE base r.1 (pMt r.2).1 = 0 then some (r.1 ++ [(pMt r.2).1], (pMt r.2).2) else none
/-- which book a text says -/
def pLoad (s : ByteArray) : Option (Int × List (List Int)) :=
  if 549755813888 < (pn (s, 0)).1 ∨ 64 < (pn (pn (s, 0)).2).1 then none
  else (pLd ((pn (s, 0)).1 : Int) (pn (pn (s, 0)).2).1 (pn (pn (s, 0)).2).2).bind fun r => if Bt.endE r.2.1 r.2.2 = 0 then some (((pn (s, 0)).1 : Int), r.1) else none
theorem pLd_len {base : Int} : ∀ {k : Nat} {t : Tp} {r : List (List Int) × Tp}, pLd base k t = some r → r.1.length = k
  | 0, t, r, h => by unfold pLd at h; cases h; rfl
  | k + 1, t, r, h => by
    unfold pLd at h
    obtain ⟨r0, h0, h1⟩ := Option.bind_eq_some_iff.1 h
    have := pLd_len h0
    by_cases hE : ptE base r0.1 (pMt r0.2).1 = 0
    · rw [if_pos hE] at h1; cases h1
      simp [this]
    · rw [if_neg hE] at h1; cases h1
theorem pLd_none {base : Int} {k n : Nat} {t : Tp} (h : pLd base k t = none) (hn : k ≤ n) : pLd base n t = none := by
  induction hn with
  | refl => exact h
  | step _ ih => unfold pLd; rw [ih]; rfl
theorem pLd_le {base : Int} : ∀ {k : Nat} {t : Tp} {r : List (List Int) × Tp}, pLd base k t = some r → r.2.1.size ≤ t.1.size
  | 0, t, r, h => by unfold pLd at h; cases h; exact Nat.le_refl _
  | k + 1, t, r, h => by
    unfold pLd at h
    obtain ⟨r0, h0, h1⟩ := Option.bind_eq_some_iff.1 h
    have := pLd_le h0
    by_cases hE : ptE base r0.1 (pMt r0.2).1 = 0
    · rw [if_pos hE] at h1; cases h1
      exact Nat.le_trans (pMt_le _) this
    · rw [if_neg hE] at h1; cases h1
theorem pMt_len (t : Tp) : (pMt t).1.length ≤ 17 := by unfold pMt; rw [pNs_len]; exact Nat.min_le_right _ _
/-- loading: between two matches -/
structure LdS (w wr : World) (b tb : Nat) (base : Int) (LL : List (List Int)) (t : Tp) : Prop where
  bk : ∃ Bk, BookAt wr Bk tb base LL ∧ ∀ q, Bk q → w.heap.size ≤ q ∧ q ≠ b
  ok : BOk base LL
  sh : Shr LL
  t : Bt.TapeAt wr b t.1 t.2
  f : Below w.heap.size w wr
theorem LdS.mine {w wr : World} {b tb : Nat} {base : Int} {LL : List (List Int)} {t : Tp} (h : LdS w wr b tb base LL t) : Mine w w.heap.size tb base LL wr := by
  obtain ⟨Bk, hb, hq⟩ := h.bk
  exact ⟨Bk, hb, h.ok, h.sh, fun q hh => (hq q hh).1, h.f, h.f.size⟩
/-- a match is read and put -/
theorem LdS.put {w wr w2 : World} {b tb : Nat} {base : Int} {LL : List (List Int)} {t : Tp} {u : Value} (h : LdS w wr b tb base LL t) (hb : w.heap.size ≤ b)
    (ho : OwnN w2 wr.heap.size u (pMt t).1) (ht : Bt.TapeAt w2 b (pMt t).2.1 (pMt t).2.2) (hf : Fr wr w2 (fun q => q = b)) : ∃ a c, u = .slice a (pMt t).1.length c ∧
    Calls Try.prog 31 #[.pointer (some ⟨tb, 0, none⟩), .agg #[.slice a (pMt t).1.length c]] w2 fun e w' => e = .returned (.int .i64 (ptE base LL (pMt t).1)) ∧ Below w.heap.size w w' ∧ (ptE base LL (pMt t).1 = 0 → LL.length < 64 → LdS w w' b tb base (LL ++ [(pMt t).1]) (pMt t).2) := by
  obtain ⟨Bk, hbk, hq⟩ := h.bk
  obtain ⟨a, c, rfl, nn⟩ := ho.nums
  have hb2 : BookAt w2 Bk tb base LL := hbk.fr hf (fun q hh e => (hq q hh).2 e)
  have f2 : Below w.heap.size w w2 := h.f.trans (hf.below (fun q e => by omega) h.f.size)
  refine ⟨a, c, rfl, (put_any c hb2 h.ok nn (by have := pMt_len t; omega)).mono ?_⟩
  rintro e w' ⟨rfl, Bk', hb', f', m1, m2⟩
  have f3 : Below w.heap.size w w' := f2.trans (f'.below (fun q hh => (hq q hh).1) f2.size)
  refine ⟨rfl, f3, fun hE hl => ?_⟩
  have e1 : ptS base LL (pMt t).1 = (base, LL ++ [(pMt t).1]) := by unfold ptS; rw [if_pos hE, if_neg (by omega)]
  have ok2 := bok_pt h.ok (pMt t).1
  have sh2 := shr_pt (base := base) h.sh (pMt t).1
  rw [e1] at hb' ok2 sh2
  have hbl := ht.lt
  exact ⟨⟨Bk', hb', fun q hh => by
    rcases m2 q hh with h1 | h1
    · exact hq q h1
    · exact ⟨Nat.le_trans f2.size h1, by omega⟩⟩, ok2, sh2, tape_fr ht f' (fun hh => (hq b hh).2 rfl), f3⟩
def Ldd (w : World) (s : ByteArray) (e : Ending) (w' : World) : Prop :=
  (pLoad s = none ∧ e = .returned (.tuple #[.pointer none, .int .i64 3]) ∧ Below w.heap.size w w') ∨
    ∃ base LL t, pLoad s = some (base, LL) ∧ e = .returned (.tuple #[.pointer (some ⟨t, 0, none⟩), .int .i64 0]) ∧ Mine w w.heap.size t base LL w'
set_option maxHeartbeats 8000000 in
set_option maxRecDepth 100000 in
theorem load_any {s : ByteArray} (hs : s.size ≤ 281474976710656) (w : World) : Calls Try.prog 30 #[.string s] w (Ldd w s) := by
  have AT := Lib.hid (Bt.at_any s w hs)
  obtain ⟨n0, t1, hn0⟩ : ∃ n0 t1, pn (s, 0) = (n0, t1) := ⟨_, _, rfl⟩
  obtain ⟨n1, t2, hn1⟩ : ∃ n1 t2, pn t1 = (n1, t2) := ⟨_, _, rfl⟩
  have l0 : n0 < 18446744073709551616 := by have := pn_lt (s, 0); rw [hn0] at this; exact this
  have l1 : n1 < 18446744073709551616 := by have := pn_lt t1; rw [hn1] at this; exact this
  have s1 : t1.1.size ≤ 281474976710656 := by have := pn_le (s, 0); rw [hn0] at this; exact Nat.le_trans this hs
  have s2 : t2.1.size ≤ 281474976710656 := by have := pn_le t1; rw [hn1] at this; exact Nat.le_trans this s1
  have PL : pLoad s = if 549755813888 < n0 ∨ 64 < n1 then none else (pLd (n0 : Int) n1 t2).bind fun r => if Bt.endE r.2.1 r.2.2 = 0 then some ((n0 : Int), r.1) else none := by
    unfold pLoad
    rw [hn0]
    simp only [hn1]
  have NU0 := Lib.hid (fun V b (h : Bt.TapeAt V b s 0) => tape_num (t := (s, 0)) h hs)
  have NU1 := Lib.hid (fun V b (h : Bt.TapeAt V b t1.1 t1.2) => tape_num (t := t1) h s1)
  rw [hn0] at NU0
  rw [hn1] at NU1
  simp only at NU0 NU1
  clear hn0 hn1 s1
  have BAD : Hid ((549755813888 < n0 ∨ 64 < n1) → ∀ w', Below w.heap.size w w' → Ldd w s (.returned (.tuple #[.pointer none, .int .i64 3])) w') := Lib.hid fun h w' b => .inl ⟨by rw [PL, if_pos h], rfl, b⟩
  have BADL : Hid (∀ j LL t', ¬ (549755813888 < n0 ∨ 64 < n1) → j < n1 → pLd (n0 : Int) j t2 = some (LL, t') → ptE (n0 : Int) LL (pMt t').1 ≠ 0 → ∀ w', Below w.heap.size w w' → Ldd w s (.returned (.tuple #[.pointer none, .int .i64 3])) w') := Lib.hid fun j LL t' h hj hp hE w' b => by
    have h1 : pLd (n0 : Int) (j + 1) t2 = none := by
      show (pLd (n0 : Int) j t2).bind _ = none
      rw [hp]
      show (if ptE (n0 : Int) LL (pMt t').1 = 0 then _ else none) = none
      rw [if_neg hE]
    exact .inl ⟨by rw [PL, if_neg h, pLd_none h1 hj]; rfl, rfl, b⟩
  have BADE : Hid (∀ LL t', ¬ (549755813888 < n0 ∨ 64 < n1) → pLd (n0 : Int) n1 t2 = some (LL, t') → Bt.endE t'.1 t'.2 ≠ 0 → ∀ w', Below w.heap.size w w' → Ldd w s (.returned (.tuple #[.pointer none, .int .i64 3])) w') := Lib.hid fun LL t' h hp hE w' b => by
    refine .inl ⟨?_, rfl, b⟩
    rw [PL, if_neg h, hp]
    show (if Bt.endE t'.1 t'.2 = 0 then _ else none) = none
    rw [if_neg hE]
  have GOOD : Hid (∀ LL t' b tb, ¬ (549755813888 < n0 ∨ 64 < n1) → pLd (n0 : Int) n1 t2 = some (LL, t') → Bt.endE t'.1 t'.2 = 0 → ∀ w', LdS w w' b tb (n0 : Int) LL t' → Ldd w s (.returned (.tuple #[.pointer (some ⟨tb, 0, none⟩), .int .i64 0])) w') := Lib.hid fun LL t' b tb h hp hE w' hS => by
    refine .inr ⟨(n0 : Int), LL, tb, ?_, rfl, hS.mine⟩
    rw [PL, if_neg h, hp]
    show (if Bt.endE t'.1 t'.2 = 0 then some ((n0 : Int), LL) else none) = _
    rw [if_pos hE]
  have TK := Lib.hid (fun V b (k : Nat) LL t' (hp : pLd (n0 : Int) k t2 = some (LL, t')) (h : Bt.TapeAt V b t'.1 t'.2) => take_any (t := t') h (Nat.le_trans (pLd_le hp) s2))
  have P0 : Hid (pLd (n0 : Int) 0 t2 = some ([], t2)) := Lib.hid rfl
  have PN : Hid (∀ j LL t', pLd (n0 : Int) j t2 = some (LL, t') → ptE (n0 : Int) LL (pMt t').1 = 0 → pLd (n0 : Int) (j + 1) t2 = some (LL ++ [(pMt t').1], (pMt t').2)) := Lib.hid fun j LL t' hp hE => by
    show (pLd (n0 : Int) j t2).bind _ = _
    rw [hp]
    show (if ptE (n0 : Int) LL (pMt t').1 = 0 then some (LL ++ [(pMt t').1], (pMt t').2) else none) = _
    rw [if_pos hE]
  clear PL s2
  generalize Ldd w s = Q at *
  go_enter Try.func30, Try.ntmps30
  go_wp2_with fail
  refine AT.out.mono ?_
  rintro e w1 ⟨b, rfl, hb, tp, b1⟩
  have TP1 := Lib.hid tp
  have B1 := Lib.hid b1
  clear tp b1 AT
  go_wp2_with fail
  refine (NU0.out w1 b TP1.out).mono ?_
  rintro e w2 ⟨rfl, f2, tp2⟩
  have TP2 := Lib.hid tp2
  have B2 : Hid (Below w.heap.size w w2) := Lib.hid (B1.out.trans (f2.below (fun q e => by omega) B1.out.size))
  clear tp2 f2 TP1 B1 NU0
  go_wp2_with fail
  refine (NU1.out w2 b TP2.out).mono ?_
  rintro e w3 ⟨rfl, f3, tp3⟩
  have TP3 := Lib.hid tp3
  have B3 : Hid (Below w.heap.size w w3) := Lib.hid (B2.out.trans (f3.below (fun q e => by omega) B2.out.size))
  clear tp3 f3 TP2 B2 NU1
  by_cases g0 : 549755813888 < n0
  · have F := BAD.out (.inl g0) _ B3.out
    have gI : (549755813888 : Int) < (n0 : Int) := by omega
    have gB := decide_eq_true gI
    clear BAD BADL BADE GOOD TK P0 PN
    go_wp2_with fail
    exact F
  have gI : ¬ (549755813888 : Int) < (n0 : Int) := by omega
  have gB := decide_eq_false gI
  by_cases g1 : 64 < n1
  · have F := BAD.out (.inr g1) _ B3.out
    have hI : (64 : Int) < (n1 : Int) := by omega
    have hB := decide_eq_true hI
    clear BAD BADL BADE GOOD TK P0 PN
    go_wp2_with fail
    exact F
  have hI : ¬ (64 : Int) < (n1 : Int) := by omega
  have hB := decide_eq_false hI
  have g01 : ¬ (549755813888 < n0 ∨ 64 < n1) := by omega
  have hwr : IntKind.i64.wrap (n0 : Int) = (n0 : Int) := by rw [IntKind.wrap_i64]; omega
  obtain ⟨W4, hW4⟩ : ∃ W4, W4 = w3.alloc (.cells #[.int .i64 (n0 : Int), .slice none 0 0] 124) := ⟨_, rfl⟩
  have b4 : Below w3.heap.size w3 W4 := by rw [hW4]; exact (Below.refl _ w3).alloc (Nat.le_refl _) _
  have k4 : Blk W4 w3.heap.size 124 #[.int .i64 (n0 : Int), .slice none 0 0] := by rw [hW4]; exact Blk.new _ _ _
  have S0 : Hid (LdS w W4 b w3.heap.size (n0 : Int) [] t2) := Lib.hid ⟨⟨fun q => q = w3.heap.size, ⟨_, [], k4, .inl ⟨rfl, rfl⟩, Els.nil _ _, rfl, fun q hq => by simp [Value.ownBlock] at hq, fun q hq => by rw [hq]; exact k4.lt⟩, fun q hq => ⟨by rw [hq]; exact B3.out.size, by rw [hq]; have := TP3.out.lt; omega⟩⟩, ⟨by omega, by simp; omega, by simp⟩, fun _ h => by simp at h, TP3.out.next b4, B3.out.trans (b4.mono B3.out.size)⟩
  have HW4 := Lib.hid hW4
  clear hW4 b4 k4 BAD TP3 B3
  go_wp2_with (rw [← HW4.out])
  generalize w3.heap.size = tb at *
  go_loopw [25] (fun i wr => ∃ (j : Nat) (LL : List (List Int)) (t' : Tp), i = .int .u64 j ∧ j ≤ n1 ∧ Hid (pLd (n0 : Int) j t2 = some (LL, t')) ∧ Hid (LdS w wr b tb (n0 : Int) LL t')) (fun i _ => n1 - (intOf i).toNat)
  case atStart => exact ⟨0, [], t2, rfl, Nat.zero_le _, P0, S0⟩
  case round =>
    obtain ⟨j, LL, t', rfl, hj, hP, hS⟩ := hrel
    clear S0 P0 HW4
    by_cases hjn : j < n1
    · have jI : (j : Int) < (n1 : Int) := by omega
      have jB := decide_eq_true jI
      have HT := Lib.hid (TK.out wr b j LL t' hP.out hS.out.t)
      have hll : LL.length < 64 := by have := pLd_len hP.out; simp only at this; omega
      clear TK BADE GOOD
      go_wp2_with fail
      refine HT.out.mono ?_
      rintro e w5 ⟨u, rfl, ho, ht5, f5⟩
      obtain ⟨a, c, rfl, PC⟩ := hS.out.put hb ho ht5 f5
      have HPC := Lib.hid PC
      clear PC ho ht5 f5 HT hS
      have PN1 := Lib.hid (PN.out j LL t' hP.out)
      have BL1 := Lib.hid (BADL.out j LL t' g01 hjn hP.out)
      clear PN BADL hP
      generalize (pMt t').1 = xs at *
      generalize (pMt t').2 = t5 at *
      by_cases hE : ptE (n0 : Int) LL xs = 0
      · rw [hE] at HPC
        have PN2 := Lib.hid (PN1.out hE)
        clear BL1 PN1
        go_wp2_with fail
        refine HPC.out.mono ?_
        rintro e w6 ⟨rfl, -, hs6⟩
        have S6 := Lib.hid (hs6 trivial hll)
        clear hs6 HPC hE
        go_wp2_with fail
        go_roundw
        case rel => exact ⟨j + 1, _, _, by go_num, by omega, PN2, S6⟩
        case measure => simp [intOf]; omega
      · have BL2 := Lib.hid (BL1.out hE)
        clear PN1 BL1
        generalize ptE (n0 : Int) LL xs = pe at *
        have hEB := decide_eq_false hE
        go_wp2_with fail
        refine HPC.out.mono ?_
        rintro e w6 ⟨rfl, b6, -⟩
        have F := BL2.out _ b6
        clear HPC b6 BL2
        go_wp2_with fail
        exact F
    · obtain rfl : j = n1 := by omega
      have jI : ¬ (j : Int) < (j : Int) := by omega
      have HE := Lib.hid (Bt.end_any hS.out.t)
      have BE1 := Lib.hid (BADE.out LL t' g01 hP.out)
      have GD1 := Lib.hid (GOOD.out LL t' b tb g01 hP.out)
      clear TK BADE GOOD PN BADL hP
      have Bw := Lib.hid hS.out.f
      by_cases hE : Bt.endE t'.1 t'.2 = 0
      · have F := GD1.out hE wr hS.out
        rw [hE] at HE
        clear BE1 GD1 hS hE
        go_wp2_with fail
        refine HE.out.mono ?_
        rintro e w6 ⟨rfl, rfl⟩
        go_wp2_with fail
        exact F
      · have F := BE1.out hE wr Bw.out
        clear BE1 GD1 hS
        generalize Bt.endE t'.1 t'.2 = pe at *
        have hEB := decide_eq_false hE
        go_wp2_with fail
        refine HE.out.mono ?_
        rintro e w6 ⟨rfl, rfl⟩
        go_wp2_with fail
        exact F
end Go.Proofs.Ytbghjcfepjbppaa.Bk
