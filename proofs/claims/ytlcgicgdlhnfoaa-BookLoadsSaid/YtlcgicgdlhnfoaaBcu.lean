/-
  The book: cut 28, Forget 17.
-/
import Derived.Test.YtlcgicgdlhnfoaaBco
import Derived.BigRegion
namespace Go.Proofs.Ytlcgicgdlhnfoaa
open Go.RowKit
theorem underlying40' : Try.prog.underlying 40 = some (.slice 37) := Try.underlying40
theorem run_clear1 (w : World) (ty : TypeId) (g o n c : Nat) (cur : Array Value) (t : TypeId) (hg : Blk w g t cur) (hn : 0 < n) (hfit : o + n ≤ cur.size) :
    (Builtin.clear_ #[40] ty #[.slice (some ⟨g, o, none⟩) n c]).run Try.prog w =
      .ok (.tuple #[]) (w.setRow g (cur.toList.take o ++ (Builtin.zeroCells (Value.agg #[.slice none 0 0]).cells n).toList ++ cur.toList.drop (o + n)).toArray) := by
  obtain ⟨i0, hi, hz0, hz1, hz2⟩ := info_parts info37
  have hl : (Builtin.zeroCells (Value.agg #[.slice none 0 0]).cells n).toList.length = n := by
    rw [Array.length_toList, size_zeroCells, show (Value.agg #[.slice none 0 0]).cells.size = 1 from rfl, Nat.mul_one]
  have h1 : ∀ v ∈ (Builtin.zeroCells (Value.agg #[.slice none 0 0]).cells n).toList, v.oneCell' = true := by
    intro v hv
    unfold Builtin.zeroCells at hv
    simp only [Array.toList_map, List.mem_map] at hv
    obtain ⟨i, _, rfl⟩ := hv
    have e : (Value.agg #[.slice none 0 0]).cells = #[.slice none 0 0] := rfl
    rw [e, show (#[Value.slice none 0 0] : Array Value).size = 1 from rfl, Nat.mod_one]
    rfl
  have hst := run_storeCells_at Try.prog g o t _ 0 cur w hg (by rw [hl]; simpa using hfit) h1
  rw [hl] at hst
  obtain ⟨m, rfl⟩ : ∃ m, n = m + 1 := ⟨n - 1, by omega⟩
  obtain ⟨Z, hZ⟩ : ∃ Z, Z = Builtin.zeroCells (Value.agg #[.slice none 0 0]).cells (m + 1) := ⟨_, rfl⟩
  rw [← hZ] at hst ⊢
  have hzc : ∀ w, (zeroValue 37).run Try.prog w = .ok (.agg #[.slice none 0 0]) w := fun w => by simp [zeroValue, typeInfo, hi, hz0]
  simp [Builtin.clear_, run_underlying Try.underlying40, hzc]
  rw [← hZ, hst]
  simp
/-- what a call that changes a book's row leaves -/
def Chd (w : World) (Bk : Nat → Prop) (t : Nat) (base : Int) (LL : List (List Int)) (w' : World) : Prop := BookAt w' Bk t base LL ∧ Fr w w' Bk
set_option maxHeartbeats 4000000 in
set_option maxRecDepth 100000 in
theorem cut_any {w : World} {Bk : Nat → Prop} {t : Nat} {base n : Int} {LL : List (List Int)} (h : BookAt w Bk t base LL) (h0 : 0 ≤ base) (hb : base ≤ 549755813888) (hl : LL.length ≤ 1000) (hn : n ≤ LL.length) (hm : -1099511627776 ≤ n) :
    Calls Try.prog 28 #[.pointer (some ⟨t, 0, none⟩), .int .i64 n] w fun e w' => (∃ r, e = .returned r) ∧ Chd w Bk t (if n < 1 then base else base + n) (LL.drop n.toNat) w' := by
  by_cases h1 : n < 1
  · have E : n.toNat = 0 := by omega
    have h1B := decide_eq_true h1
    rw [if_pos h1, E, List.drop_zero]
    have FIN := Lib.hid (show Chd w Bk t base LL w from ⟨h, Fr.refl _ _⟩)
    clear h E
    go_enter Try.func28, Try.ntmps28
    go_wp2_with fail
    (try simp only [Exit.inBlock, Exit.then])
    refine bodyPost_ret (results_none rfl _ _ _) rfl ?_
    exact ⟨⟨_, rfl⟩, FIN.out⟩
  obtain ⟨k, rfl⟩ : ∃ k : Nat, n = k := ⟨n.toNat, by omega⟩
  have hk1 : 1 ≤ k := by omega
  rw [if_neg h1, Int.toNat_natCast]
  obtain ⟨v, cs, kt, r, e, ht, hv, hlt⟩ := h
  have hcl := e.1
  have hkc : k ≤ cs.length := by omega
  rcases r with ⟨rfl, rfl⟩ | ⟨g, o, cap, cur, rfl, hg, hc1, hc2, hc3, hc4, hc5⟩
  · simp at hkc; omega
  have hne : g ≠ t := fun e2 => by
    subst e2
    exact absurd (kt.ty hg) (by decide)
  obtain ⟨R, hR⟩ : ∃ R : Array Value, R = (cur.toList.take o ++ (Builtin.zeroCells (Value.agg #[.slice none 0 0]).cells k).toList ++ cur.toList.drop (o + k)).toArray := ⟨_, rfl⟩
  have hzl : (Builtin.zeroCells (Value.agg #[.slice none 0 0]).cells k).toList.length = k := by
    rw [Array.length_toList, size_zeroCells, show (Value.agg #[.slice none 0 0]).cells.size = 1 from rfl, Nat.mul_one]
  have hRs : R.size = cur.size := by
    rw [hR, List.size_toArray, List.length_append, List.length_append, List.length_take, List.length_drop, hzl, Array.length_toList]; omega
  have hRd : R.toList.drop (o + k) = cur.toList.drop (o + k) := by
    rw [hR, List.toList_toArray]
    have hA : (cur.toList.take o ++ (Builtin.zeroCells (Value.agg #[.slice none 0 0]).cells k).toList).length = o + k := by
      rw [List.length_append, List.length_take, hzl, Array.length_toList]; omega
    rw [← hA, List.drop_left]
  have CLR := Lib.hid (fun ty c => run_clear1 w ty g o k c cur 37 hg (by omega) (by omega))
  rw [← hR] at CLR
  have K2 : Blk (w.setRow g R) g 37 R := setRow_heap w g cur R 37 (0, 0) hg
  have T2 : Blk (w.setRow g R) t 59 #[.int .i64 base, .slice (some ⟨g, o, none⟩) cs.length cap] := (setRow_other w g t R (fun e => hne e.symm)).trans kt
  have F2 : Fr w (w.setRow g R) (fun q => q = g) := ⟨rfl, rfl, rfl, by simp, fun q _ hq => setRow_other w g q R hq⟩
  have hgB : Bk g := hv g rfl
  have FIN : Hid (∀ w5 o', (o' = o + k ∨ k = cs.length) → Blk w5 t 59 #[.int .i64 (base + k), .slice (some ⟨g, o', none⟩) (cs.length - k) (cs.length - k)] → o' + (cs.length - k) ≤ cur.size → Fr (w.setRow g R) w5 (fun q => q = t) → Chd w Bk t (base + k) (LL.drop k) w5) := Lib.hid fun w5 o' ho k5 ho2 f5 => by
    have f5' : Fr w w5 (fun q => q = g ∨ q = t) := F2.trans f5 (fun _ _ h => .inl h) (fun _ _ h => .inr h)
    have hel : ∀ q, Bk q → q < w5.heap.size := fun q hq => Nat.lt_of_lt_of_le (hlt q hq) f5'.size
    refine ⟨⟨_, cs.drop k, k5, .inr ⟨g, o', cs.length - k, R, by rw [List.length_drop], K2.fr f5 (fun e => hne e), by rw [List.length_drop]; exact Nat.le_refl _, by omega, .inl (by rw [List.length_drop]), by omega, ?_⟩, ?_, ht, fun q hq => by
      have : g = q := by simpa [Value.ownBlock] using hq
      rw [← this]; exact hgB, hel⟩, f5'.mono (fun q _ hq => by rcases hq with rfl | rfl; exact hgB; exact ht)⟩
    · rw [List.length_drop]
      rcases ho with rfl | rfl
      · rw [hRd]
        have := congrArg (List.drop k) hc5
        rw [List.drop_take, List.drop_drop] at this
        exact this
      · rw [Nat.sub_self, List.take_zero, List.drop_of_length_le (Nat.le_refl _)]
    · refine (e.drop k).fr f5' (fun q cu _ hq hh => ?_)
      rcases hh with rfl | rfl
      · exact absurd (hq.ty hg) (by decide)
      · exact absurd (hq.ty kt) (by decide)
  have c1w : w.cell? ⟨t, 1, none⟩ = some (.slice (some ⟨g, o, none⟩) cs.length cap) := kt.cell 1
  have hocs : o + cs.length ≤ cur.size := by omega
  have hocap : Hid (o + cs.length ≤ cur.size) := Lib.hid hocs
  have hcapI : (cap : Int) ≤ 9223372036854775807 := by unfold maxLen at hc2; omega
  have hclI : cs.length ≤ 1000 := by omega
  obtain ⟨W2, hW2⟩ : ∃ W2, W2 = w.setRow g R := ⟨_, rfl⟩
  rw [← hW2] at CLR K2 T2 F2 FIN
  have TT := Lib.hid T2
  clear hW2 hRd hRs hzl hR K2 F2 hlt hv e kt hg hc3 hc4 hc5 hne hocs T2 hc2 hcl
  generalize LL.drop k = LD at *
  generalize LL.length = nn at *
  generalize cs.length = m at *
  have hkm : (k : Int) ≤ (m : Int) := by omega
  have hkc2 : (k : Int) ≤ (cap : Int) := by omega
  have hmc2 : (m : Int) ≤ (cap : Int) := by omega
  have hk1I : ¬ (k : Int) < 1 := by omega
  have hk1B := decide_eq_false hk1I
  have hbk : IntKind.i64.wrap (base + k) = base + k := by rw [IntKind.wrap_i64]; omega
  have hbk2 : ¬ (9223372036854775807 < base + k) := by omega
  have hkp : k ≠ 0 := by omega
  have hcl := CLR.out
  clear CLR
  have c0 : W2.cell? ⟨t, 0, none⟩ = some (.int .i64 base) := TT.out.cell 0
  have c1 : W2.cell? ⟨t, 1, none⟩ = some (.slice (some ⟨g, o, none⟩) m cap) := TT.out.cell 1
  have f0 : W2.frozen? ⟨t, 0, none⟩ = false := TT.out.free 0
  have f1 : W2.frozen? ⟨t, 1, none⟩ = false := TT.out.free 1
  have RET : Hid (∀ o' w5, (o' = o + k ∨ k = m) → o' + (m - k) ≤ cur.size → w5 = ((W2.setCell ⟨t, 1, none⟩ (.slice (some ⟨g, o', none⟩) (m - k) (m - k))).setCell ⟨t, 0, none⟩ (.int .i64 (base + k))).drew → Chd w Bk t (base + k) LD w5) := Lib.hid fun o' w5 ho ho2 hw => by
    subst hw
    exact FIN.out _ o' ho ((TT.out.set 1 (.slice (some ⟨g, o', none⟩) (m - k) (m - k))).set 0 (.int .i64 (base + k))) ho2 ((((Fr.refl W2 (fun q => q = t)).set t 1 _ (.inl rfl)).set t 0 _ (.inl rfl)).on (fr_drew _ _))
  clear FIN
  by_cases hkm2 : k = m
  · subst hkm2
    go_enter Try.func28, Try.ntmps28
    go_wp2_with fail
    go_region
    all_goals go_wp2_with fail
    all_goals go_end0
    all_goals exact ⟨⟨_, rfl⟩, RET.out o _ (.inr trivial) (by have := hocap.out; omega) (by rw [Nat.sub_self])⟩
  · have hkl : k < m := by omega
    have hklI : (k : Int) < (m : Int) := by omega
    have hne1 : ¬ (m = k) := by omega
    have hne2 : ¬ (m ≤ k) := by omega
    go_enter Try.func28, Try.ntmps28
    go_wp2_with fail
    go_region
    all_goals go_wp2_with fail
    all_goals go_end0
    all_goals exact ⟨⟨_, rfl⟩, RET.out (o + k) _ (.inl rfl) (by have := hocap.out; omega) rfl⟩
/-- what Forget answers, and what is left -/
def fgE (base : Int) (LL : List (List Int)) (b : Int) : Int := if b < 0 ∨ base + LL.length < b then 1 else 0
def fgS (base : Int) (LL : List (List Int)) (b : Int) : Int × List (List Int) := if b < 0 ∨ base + LL.length < b ∨ b ≤ base then (base, LL) else (b, LL.drop (b - base).toNat)
/-- a book's numbers -/
structure BOk (base : Int) (LL : List (List Int)) : Prop where
  b0 : 0 ≤ base
  b1 : base + LL.length ≤ 549755813888
  n : LL.length ≤ 64
theorem forget_nil (b : Int) (w : World) : Calls Try.prog 17 #[.pointer none, .int .i64 b] w fun e w' => e = .returned (.int .i64 1) ∧ w = w' := by
  go_enter Try.func17, Try.ntmps17
  go_wp2_with fail
  go_ret
  exact ⟨rfl, rfl⟩
def Fgt (w : World) (Bk : Nat → Prop) (t : Nat) (base : Int) (LL : List (List Int)) (b : Int) (e : Ending) (w' : World) : Prop := e = .returned (.int .i64 (fgE base LL b)) ∧ Chd w Bk t (fgS base LL b).1 (fgS base LL b).2 w'
set_option maxHeartbeats 2000000 in
set_option maxRecDepth 100000 in
theorem forget_any {w : World} {Bk : Nat → Prop} {t : Nat} {base : Int} {LL : List (List Int)} (b : Int) (h : BookAt w Bk t base LL) (ok : BOk base LL) : Calls Try.prog 17 #[.pointer (some ⟨t, 0, none⟩), .int .i64 b] w (Fgt w Bk t base LL b) := by
  have o0 := ok.b0
  have o1 := ok.b1
  have o2 := ok.n
  have SELF := Lib.hid (fun w' (bb : Below w.heap.size w w') => show Chd w Bk t base LL w' from ⟨h.next bb, Fr.of_below bb _⟩)
  have HE := Lib.hid (end_any h o0 (by omega) (by omega))
  by_cases h1 : b < 0
  · have FIN : Hid (∀ w', Below w.heap.size w w' → Fgt w Bk t base LL b (.returned (.int .i64 1)) w') := Lib.hid fun w' bb => by
      unfold Fgt fgE fgS
      rw [if_pos (.inl h1), if_pos (.inl h1)]
      exact ⟨rfl, SELF.out w' bb⟩
    have h1B := decide_eq_true h1
    clear SELF h ok HE
    generalize Fgt w Bk t base LL b = Q at *
    go_enter Try.func17, Try.ntmps17
    go_wp2_with fail
    exact FIN.out _ (Below.refl _ _)
  have h1B := decide_eq_false h1
  by_cases h2 : base + LL.length < b
  · have FIN : Hid (∀ w', Below w.heap.size w w' → Fgt w Bk t base LL b (.returned (.int .i64 1)) w') := Lib.hid fun w' bb => by
      unfold Fgt fgE fgS
      rw [if_pos (.inr h2), if_pos (.inr (.inl h2))]
      exact ⟨rfl, SELF.out w' bb⟩
    clear SELF h ok
    generalize Fgt w Bk t base LL b = Q at *
    generalize base + (LL.length : Int) = z at *
    have h2B := decide_eq_true h2
    go_enter Try.func17, Try.ntmps17
    go_wp2_with (refine HE.out.mono ?_; rintro e w1 ⟨rfl, b1⟩)
    exact FIN.out _ b1
  have FIN : Hid (∀ w1 w', Below w.heap.size w w1 → Chd w1 Bk t (if b - base < 1 then base else base + (b - base)) (LL.drop (b - base).toNat) w' → Fgt w Bk t base LL b (.returned (.int .i64 0)) w') := Lib.hid fun w1 w' bb hc => by
    unfold Fgt fgE fgS
    rw [if_neg (by omega)]
    refine ⟨rfl, ?_⟩
    by_cases h3 : b ≤ base
    · rw [if_pos (.inr (.inr h3))]
      rw [if_pos (by omega), show (b - base).toNat = 0 by omega, List.drop_zero] at hc
      exact ⟨hc.1, (Fr.of_below bb Bk).on hc.2⟩
    · rw [if_neg (by omega)]
      rw [if_neg (by omega), show base + (b - base) = b by omega] at hc
      exact ⟨hc.1, (Fr.of_below bb Bk).on hc.2⟩
  have HC := Lib.hid (fun w1 (bb : Below w.heap.size w w1) => cut_any (n := b - base) (h.next bb) o0 (by omega) (by omega) (by omega) (by omega))
  obtain ⟨v, cs, k, -⟩ := h
  have K := Lib.hid k
  clear SELF k ok
  have hw : ¬ (b - base < -9223372036854775808) := by omega
  have hw2 : ¬ (9223372036854775807 < b - base) := by omega
  have hwr : IntKind.i64.wrap (b - base) = b - base := by rw [IntKind.wrap_i64]; omega
  generalize Fgt w Bk t base LL b = Q at *
  generalize hz : base + (LL.length : Int) = z at *
  clear hz
  have h2B := decide_eq_false h2
  have c0 : w.cell? ⟨t, 0, none⟩ = some (.int .i64 base) := K.out.cell 0
  go_enter Try.func17, Try.ntmps17
  go_wp2_with (first
    | (go_at_call 23; refine HE.out.mono ?_; rintro e w1 ⟨rfl, b1⟩; have B1 := Lib.hid b1; have c1 : w1.cell? ⟨t, 0, none⟩ = some (.int .i64 base) := (K.out.next b1).cell 0; clear b1)
    | (go_at_call 28; refine (HC.out w1 B1.out).mono ?_; rintro e w2 ⟨⟨r, rfl⟩, hc⟩; have HCC := Lib.hid hc; clear hc))
  exact FIN.out _ _ B1.out HCC.out
end Go.Proofs.Ytlcgicgdlhnfoaa
