/-
  WHAT THE ROWS REST ON, part 16: Bcu Brf Bbd Bbe.
-/
import Derived.BigRegion
import Derived.RangeFuncNested
import Derived.RangeFuncBound
import Derived.RangeFuncCalls
import Derived.RangeFuncLeaves
import Derived.OwnWalkIn
import Derived.TacticsInMore
import Derived.LoopNIn
import Derived.LoopIn
import Derived.BigRegionIn
import Derived.Test.YtggjpallbapcmaaPart15
/-
  The book: cut 28, Forget 17.
-/
namespace Go.Proofs.Ytggjpallbapcmaa.Bk
open Go.RowKit
theorem underlying40' : Try.prog.underlying 35 = some (.slice 70) := Try.underlying35
theorem run_clear1 (w : World) (ty : TypeId) (g o n c : Nat) (cur : Array Value) (t : TypeId) (hg : Blk w g t cur) (hn : 0 < n) (hfit : o + n ≤ cur.size) :
    (Builtin.clear_ #[35] ty #[.slice (some ⟨g, o, none⟩) n c]).run Try.prog w =
      .ok (.tuple #[]) (w.setRow g (cur.toList.take o ++ (Builtin.zeroCells (Value.agg #[.slice none 0 0]).cells n).toList ++ cur.toList.drop (o + n)).toArray) := by
  obtain ⟨i0, hi, hz0, hz1, hz2⟩ := info_parts info37
  have hl : (Builtin.zeroCells (Value.agg #[.slice none 0 0]).cells n).toList.length = n := by
    rw [Array.length_toList, size_zeroCells, show (Value.agg #[.slice none 0 0]).cells.size = 1 from rfl, Nat.mul_one]
  have h1 : ∀ v ∈ (Builtin.zeroCells (Value.agg #[.slice none 0 0]).cells n).toList, v.oneCell' = true := by
    intro v hv
    unfold Builtin.zeroCells at hv
    simp only [Array.toList_map, List.mem_map] at hv
    obtain ⟨i, _, rfl⟩ := hv
    have e : (Value.agg #[.slice none 0 0]).cells = #[.slice none 0 0] := rfl
    rw [e, show (#[Value.slice none 0 0] : Array Value).size = 1 from rfl, Nat.mod_one]
    rfl
  have hst := run_storeCells_at Try.prog g o t _ 0 cur w hg (by rw [hl]; simpa using hfit) h1
  rw [hl] at hst
  obtain ⟨m, rfl⟩ : ∃ m, n = m + 1 := ⟨n - 1, by omega⟩
  obtain ⟨Z, hZ⟩ : ∃ Z, Z = Builtin.zeroCells (Value.agg #[.slice none 0 0]).cells (m + 1) := ⟨_, rfl⟩
  rw [← hZ] at hst ⊢
  have hzc : ∀ w, (zeroValue 70).run Try.prog w = .ok (.agg #[.slice none 0 0]) w := fun w => by simp [zeroValue, typeInfo, hi, hz0]
  simp [Builtin.clear_, run_underlying Try.underlying35, hzc]
  rw [← hZ, hst]
  simp
/-- what a call that changes a book's row leaves -/
def Chd (w : World) (Bk : Nat → Prop) (t : Nat) (base : Int) (LL : List (List Int)) (w' : World) : Prop := BookAt w' Bk t base LL ∧ Fr w w' Bk
set_option maxHeartbeats 4000000 in
set_option maxRecDepth 100000 in
theorem cut_any {w : World} {Bk : Nat → Prop} {t : Nat} {base n : Int} {LL : List (List Int)} (h : BookAt w Bk t base LL) (h0 : 0 ≤ base) (hb : base ≤ 549755813888) (hl : LL.length ≤ 1000) (hn : n ≤ LL.length) (hm : -1099511627776 ≤ n) :
    Calls Try.prog 66 #[.pointer (some ⟨t, 0, none⟩), .int .i64 n] w fun e w' => (∃ r, e = .returned r) ∧ Chd w Bk t (if n < 1 then base else base + n) (LL.drop n.toNat) w' := by
  by_cases h1 : n < 1
  · have E : n.toNat = 0 := by omega
    have h1B := decide_eq_true h1
    rw [if_pos h1, E, List.drop_zero]
    have FIN := Lib.hid (show Chd w Bk t base LL w from ⟨h, Fr.refl _ _⟩)
    clear h E
    go_enter Try.func66, Try.ntmps66
    go_wp2_with fail
    (try simp only [Exit.inBlock, Exit.then])
    refine bodyPost_ret (results_none rfl _ _ _) rfl ?_
    exact ⟨⟨_, rfl⟩, FIN.out⟩
  obtain ⟨k, rfl⟩ : ∃ k : Nat, n = k := ⟨n.toNat, by omega⟩
  have hk1 : 1 ≤ k := by omega
  rw [if_neg h1, Int.toNat_natCast]
  obtain ⟨v, cs, kt, r, e, ht, hv, hlt⟩ := h
  have hcl := e.1
  have hkc : k ≤ cs.length := by omega
  rcases r with ⟨rfl, rfl⟩ | ⟨g, o, cap, cur, rfl, hg, hc1, hc2, hc3, hc4, hc5⟩
  · simp at hkc; omega
  have hne : g ≠ t := fun e2 => by
    subst e2
    exact absurd (kt.ty hg) (by decide)
  obtain ⟨R, hR⟩ : ∃ R : Array Value, R = (cur.toList.take o ++ (Builtin.zeroCells (Value.agg #[.slice none 0 0]).cells k).toList ++ cur.toList.drop (o + k)).toArray := ⟨_, rfl⟩
  have hzl : (Builtin.zeroCells (Value.agg #[.slice none 0 0]).cells k).toList.length = k := by
    rw [Array.length_toList, size_zeroCells, show (Value.agg #[.slice none 0 0]).cells.size = 1 from rfl, Nat.mul_one]
  have hRs : R.size = cur.size := by
    rw [hR, List.size_toArray, List.length_append, List.length_append, List.length_take, List.length_drop, hzl, Array.length_toList]; omega
  have hRd : R.toList.drop (o + k) = cur.toList.drop (o + k) := by
    rw [hR, List.toList_toArray]
    have hA : (cur.toList.take o ++ (Builtin.zeroCells (Value.agg #[.slice none 0 0]).cells k).toList).length = o + k := by
      rw [List.length_append, List.length_take, hzl, Array.length_toList]; omega
    rw [← hA, List.drop_left]
  have CLR := Lib.hid (fun ty c => run_clear1 w ty g o k c cur 70 hg (by omega) (by omega))
  rw [← hR] at CLR
  have K2 : Blk (w.setRow g R) g 70 R := setRow_heap w g cur R 70 (0, 0) hg
  have T2 : Blk (w.setRow g R) t 124 #[.int .i64 base, .slice (some ⟨g, o, none⟩) cs.length cap] := (setRow_other w g t R (fun e => hne e.symm)).trans kt
  have F2 : Fr w (w.setRow g R) (fun q => q = g) := ⟨rfl, rfl, rfl, by simp, fun q _ hq => setRow_other w g q R hq⟩
  have hgB : Bk g := hv g rfl
  have FIN : Hid (∀ w5 o', (o' = o + k ∨ k = cs.length) → Blk w5 t 124 #[.int .i64 (base + k), .slice (some ⟨g, o', none⟩) (cs.length - k) (cs.length - k)] → o' + (cs.length - k) ≤ cur.size → Fr (w.setRow g R) w5 (fun q => q = t) → Chd w Bk t (base + k) (LL.drop k) w5) := Lib.hid fun w5 o' ho k5 ho2 f5 => by
    have f5' : Fr w w5 (fun q => q = g ∨ q = t) := F2.trans f5 (fun _ _ h => .inl h) (fun _ _ h => .inr h)
    have hel : ∀ q, Bk q → q < w5.heap.size := fun q hq => Nat.lt_of_lt_of_le (hlt q hq) f5'.size
    refine ⟨⟨_, cs.drop k, k5, .inr ⟨g, o', cs.length - k, R, by rw [List.length_drop], K2.fr f5 (fun e => hne e), by rw [List.length_drop]; exact Nat.le_refl _, by omega, .inl (by rw [List.length_drop]), by omega, ?_⟩, ?_, ht, fun q hq => by
      have : g = q := by simpa [Value.ownBlock] using hq
      rw [← this]; exact hgB, hel⟩, f5'.mono (fun q _ hq => by rcases hq with rfl | rfl; exact hgB; exact ht)⟩
    · rw [List.length_drop]
      rcases ho with rfl | rfl
      · rw [hRd]
        have := congrArg (List.drop k) hc5
        rw [List.drop_take, List.drop_drop] at this
        exact this
      · rw [Nat.sub_self, List.take_zero, List.drop_of_length_le (Nat.le_refl _)]
    · refine (e.drop k).fr f5' (fun q cu _ hq hh => ?_)
      rcases hh with rfl | rfl
      · exact absurd (hq.ty hg) (by decide)
      · exact absurd (hq.ty kt) (by decide)
  have c1w : w.cell? ⟨t, 1, none⟩ = some (.slice (some ⟨g, o, none⟩) cs.length cap) := kt.cell 1
  have hocs : o + cs.length ≤ cur.size := by omega
  have hocap : Hid (o + cs.length ≤ cur.size) := Lib.hid hocs
  have hcapI : (cap : Int) ≤ 9223372036854775807 := by unfold maxLen at hc2; omega
  have hclI : cs.length ≤ 1000 := by omega
  obtain ⟨W2, hW2⟩ : ∃ W2, W2 = w.setRow g R := ⟨_, rfl⟩
  rw [← hW2] at CLR K2 T2 F2 FIN
  have TT := Lib.hid T2
  clear hW2 hRd hRs hzl hR K2 F2 hlt hv e kt hg hc3 hc4 hc5 hne hocs T2 hc2 hcl
  generalize LL.drop k = LD at *
  generalize LL.length = nn at *
  generalize cs.length = m at *
  have hkm : (k : Int) ≤ (m : Int) := by omega
  have hkc2 : (k : Int) ≤ (cap : Int) := by omega
  have hmc2 : (m : Int) ≤ (cap : Int) := by omega
  have hk1I : ¬ (k : Int) < 1 := by omega
  have hk1B := decide_eq_false hk1I
  have hbk : IntKind.i64.wrap (base + k) = base + k := by rw [IntKind.wrap_i64]; omega
  have hbk2 : ¬ (9223372036854775807 < base + k) := by omega
  have hkp : k ≠ 0 := by omega
  have hcl := CLR.out
  clear CLR
  have c0 : W2.cell? ⟨t, 0, none⟩ = some (.int .i64 base) := TT.out.cell 0
  have c1 : W2.cell? ⟨t, 1, none⟩ = some (.slice (some ⟨g, o, none⟩) m cap) := TT.out.cell 1
  have f0 : W2.frozen? ⟨t, 0, none⟩ = false := TT.out.free 0
  have f1 : W2.frozen? ⟨t, 1, none⟩ = false := TT.out.free 1
  have RET : Hid (∀ o' w5, (o' = o + k ∨ k = m) → o' + (m - k) ≤ cur.size → w5 = ((W2.setCell ⟨t, 1, none⟩ (.slice (some ⟨g, o', none⟩) (m - k) (m - k))).setCell ⟨t, 0, none⟩ (.int .i64 (base + k))).drew → Chd w Bk t (base + k) LD w5) := Lib.hid fun o' w5 ho ho2 hw => by
    subst hw
    exact FIN.out _ o' ho ((TT.out.set 1 (.slice (some ⟨g, o', none⟩) (m - k) (m - k))).set 0 (.int .i64 (base + k))) ho2 ((((Fr.refl W2 (fun q => q = t)).set t 1 _ (.inl rfl)).set t 0 _ (.inl rfl)).on (fr_drew _ _))
  clear FIN
  by_cases hkm2 : k = m
  · subst hkm2
    go_enter Try.func66, Try.ntmps66
    go_wp2_with fail
    go_region
    all_goals go_wp2_with fail
    all_goals go_end0
    all_goals exact ⟨⟨_, rfl⟩, RET.out o _ (.inr trivial) (by have := hocap.out; omega) (by rw [Nat.sub_self])⟩
  · have hkl : k < m := by omega
    have hklI : (k : Int) < (m : Int) := by omega
    have hne1 : ¬ (m = k) := by omega
    have hne2 : ¬ (m ≤ k) := by omega
    go_enter Try.func66, Try.ntmps66
    go_wp2_with fail
    go_region
    all_goals go_wp2_with fail
    all_goals go_end0
    all_goals exact ⟨⟨_, rfl⟩, RET.out (o + k) _ (.inl rfl) (by have := hocap.out; omega) rfl⟩
/-- what Forget answers, and what is left -/
def fgE (base : Int) (LL : List (List Int)) (b : Int) : Int := if b < 0 ∨ base + LL.length < b then 1 else 0
def fgS (base : Int) (LL : List (List Int)) (b : Int) : Int × List (List Int) := if b < 0 ∨ base + LL.length < b ∨ b ≤ base then (base, LL) else (b, LL.drop (b - base).toNat)
/-- a book's numbers -/
structure BOk (base : Int) (LL : List (List Int)) : Prop where
  b0 : 0 ≤ base
  b1 : base + LL.length ≤ 549755813888
  n : LL.length ≤ 64
theorem forget_nil (b : Int) (w : World) : Calls Try.prog 33 #[.pointer none, .int .i64 b] w fun e w' => e = .returned (.int .i64 1) ∧ w = w' := by
  go_enter Try.func33, Try.ntmps33
  go_wp2_with fail
  go_ret
  exact ⟨rfl, rfl⟩
def Fgt (w : World) (Bk : Nat → Prop) (t : Nat) (base : Int) (LL : List (List Int)) (b : Int) (e : Ending) (w' : World) : Prop := e = .returned (.int .i64 (fgE base LL b)) ∧ Chd w Bk t (fgS base LL b).1 (fgS base LL b).2 w'
set_option maxHeartbeats 2000000 in
set_option maxRecDepth 100000 in
theorem forget_any {w : World} {Bk : Nat → Prop} {t : Nat} {base : Int} {LL : List (List Int)} (b : Int) (h : BookAt w Bk t base LL) (ok : BOk base LL) : Calls Try.prog 33 #[.pointer (some ⟨t, 0, none⟩), .int .i64 b] w (Fgt w Bk t base LL b) := by
  have o0 := ok.b0
  have o1 := ok.b1
  have o2 := ok.n
  have SELF := Lib.hid (fun w' (bb : Below w.heap.size w w') => show Chd w Bk t base LL w' from ⟨h.next bb, Fr.of_below bb _⟩)
  have HE := Lib.hid (end_any h o0 (by omega) (by omega))
  by_cases h1 : b < 0
  · have FIN : Hid (∀ w', Below w.heap.size w w' → Fgt w Bk t base LL b (.returned (.int .i64 1)) w') := Lib.hid fun w' bb => by
      unfold Fgt fgE fgS
      rw [if_pos (.inl h1), if_pos (.inl h1)]
      exact ⟨rfl, SELF.out w' bb⟩
    have h1B := decide_eq_true h1
    clear SELF h ok HE
    generalize Fgt w Bk t base LL b = Q at *
    go_enter Try.func33, Try.ntmps33
    go_wp2_with fail
    exact FIN.out _ (Below.refl _ _)
  have h1B := decide_eq_false h1
  by_cases h2 : base + LL.length < b
  · have FIN : Hid (∀ w', Below w.heap.size w w' → Fgt w Bk t base LL b (.returned (.int .i64 1)) w') := Lib.hid fun w' bb => by
      unfold Fgt fgE fgS
      rw [if_pos (.inr h2), if_pos (.inr (.inl h2))]
      exact ⟨rfl, SELF.out w' bb⟩
    clear SELF h ok
    generalize Fgt w Bk t base LL b = Q at *
    generalize base + (LL.length : Int) = z at *
    have h2B := decide_eq_true h2
    go_enter Try.func33, Try.ntmps33
    go_wp2_with (refine HE.out.mono ?_; rintro e w1 ⟨rfl, b1⟩)
    exact FIN.out _ b1
  have FIN : Hid (∀ w1 w', Below w.heap.size w w1 → Chd w1 Bk t (if b - base < 1 then base else base + (b - base)) (LL.drop (b - base).toNat) w' → Fgt w Bk t base LL b (.returned (.int .i64 0)) w') := Lib.hid fun w1 w' bb hc => by
    unfold Fgt fgE fgS
    rw [if_neg (by omega)]
    refine ⟨rfl, ?_⟩
    by_cases h3 : b ≤ base
    · rw [if_pos (.inr (.inr h3))]
      rw [if_pos (by omega), show (b - base).toNat = 0 by omega, List.drop_zero] at hc
      exact ⟨hc.1, (Fr.of_below bb Bk).on hc.2⟩
    · rw [if_neg (by omega)]
      rw [if_neg (by omega), show base + (b - base) = b by omega] at hc
      exact ⟨hc.1, (Fr.of_below bb Bk).on hc.2⟩
  have HC := Lib.hid (fun w1 (bb : Below w.heap.size w w1) => cut_any (n := b - base) (h.next bb) o0 (by omega) (by omega) (by omega) (by omega))
  obtain ⟨v, cs, k, -⟩ := h
  have K := Lib.hid k
  clear SELF k ok
  have hw : ¬ (b - base < -9223372036854775808) := by omega
  have hw2 : ¬ (9223372036854775807 < b - base) := by omega
  have hwr : IntKind.i64.wrap (b - base) = b - base := by rw [IntKind.wrap_i64]; omega
  generalize Fgt w Bk t base LL b = Q at *
  generalize hz : base + (LL.length : Int) = z at *
  clear hz
  have h2B := decide_eq_false h2
  have c0 : w.cell? ⟨t, 0, none⟩ = some (.int .i64 base) := K.out.cell 0
  go_enter Try.func33, Try.ntmps33
  go_wp2_with (first
    | (go_at_call 64; refine HE.out.mono ?_; rintro e w1 ⟨rfl, b1⟩; have B1 := Lib.hid b1; have c1 : w1.cell? ⟨t, 0, none⟩ = some (.int .i64 base) := (K.out.next b1).cell 0; clear b1)
    | (go_at_call 66; refine (HC.out w1 B1.out).mono ?_; rintro e w2 ⟨⟨r, rfl⟩, hc⟩; have HCC := Lib.hid hc; clear hc))
  exact FIN.out _ _ B1.out HCC.out
end Go.Proofs.Ytggjpallbapcmaa.Bk
/-
  A range over a function whose rounds all go on, and are told what they are handed: a law of my own over the kit's.
-/
namespace Go.Proofs.Ytggjpallbapcmaa.Bk
open Go.RowKit
/-- no cells lie there -/
def NC (A : World) (l : Nat) : Prop := ∀ c t z, A.heap[l]? ≠ some (.cells c t z)
theorem fr_putObj (W : World) (l : Nat) (o : Obj) : Fr W (W.putObj l o) (fun q => q = l) := ⟨rfl, rfl, rfl, by simp, fun q _ hq => World.putObj_heap_other hq⟩
theorem Blk.nc {w : World} {g l : Nat} {t : TypeId} {cs : Array Value} (h : Blk w g t cs) (hn : NC w l) : g ≠ l := fun e => by subst e; exact hn _ _ _ h
theorem keeps_below {w w' : World} (h : Below w.heap.size w w') : KeepsOthers w w' := ⟨h.size, fun k _ hk _ => (h.block k (Array.getElem?_eq_some_iff.1 hk).1).trans hk⟩
theorem keeps_fr {w w' : World} {P : Nat → Prop} (h : Fr w w' P) (hc : ∀ q o, P q → w.heap[q]? = some o → o.isCells = true) : KeepsOthers w w' := ⟨h.size, fun k o hk ho => by
  refine (h.block k (Array.getElem?_eq_some_iff.1 hk).1 (fun hp => ?_)).trans hk
  rw [hc k o hp hk] at ho
  exact absurd ho (by decide)⟩
/-- what an iterator gives, each round going on: X: what is known of what is handed over; Fb: the old blocks that the body may turn -/
def Gives {α : Type} (P : Program) (m gf : Nat) (lb : Array Value) (enc : α → Value) (X : α → World → Prop) (G S : List α → Prop) (Fb : Nat → Prop) (w : World) : Prop :=
  ∀ (l : Nat) (J : List α → World → Prop) (W : World), Below w.heap.size w W → (∀ s A B, J s A → Below A.heap.size A B → J s B) →
    (∀ pre x W1, J pre W1 → X x W1 → G (pre ++ [x]) → YieldAt Fence.wide (m - 1) P l #[enc x] W1 fun e W' => e = .returned (.bool true) ∧ J (pre ++ [x]) W' ∧ Fr W1 W' (fun q => Fb q ∨ w.heap.size ≤ q)) →
    J [] W → CallsIn Fence.wide m P gf (#[.func (.yield l) #[] #[]] ++ lb) W fun e W' => (∃ v, e = .returned v) ∧ ∃ xs, S xs ∧ J xs W'
/-- how a round's body must be left -/
def goesOn {α : Type} (I : List α → World → Prop) (Fb : Nat → Prop) (n : Nat) (xs : List α) (W W2 : World) : Exit → Act → World → Prop
  | .normal, _, W3 => KeepsOthers W2 W3 ∧ Fr W W3 (fun q => Fb q ∨ n ≤ q) ∧ I xs W3
  | _, _, _ => False
theorem range_law {P : Program} {α : Type} {g : Operand} {ps : Array Tmp} {assign body : Code} {Q : Exit → Act → World → Prop} {a : Act} {w : World} {m gf : Nat} {lb : Array Value}
    {enc : α → Value} {X : α → World → Prop} {G S : List α → Prop} {Fb : Nat → Prop}
    (h1 : 1 ≤ m) (hg : a.eval g = .func (.func gf) #[] lb) (eg : ∀ args w, (callFunc gf args).run P w = .ok (.enter gf args) w)
    (hseq : Gives P (m - 1) gf lb enc X G S Fb w) (hps : ps.size = 1) (I : List α → World → Prop)
    (hI : ∀ s A B, I s A → NC A (w.heap.size + 1) → Fr A B (fun q => q = w.heap.size + 1) → I s B) (h0 : I [] w)
    (hround : ∀ (l : Nat) (pre : List α) (x : α) (W : World), I pre W → X x W → G (pre ++ [x]) → w.heap.size + 1 < W.heap.size → NC W (w.heap.size + 1) →
      assign.wpIn (Fence.wide.inRound l) (m - 1 - 1) P (Exit.then (fun a₁ W1 => KeepsOthers W W1 ∧ ∀ W2, Fr W1 W2 (fun q => q = w.heap.size + 1) → NC W1 (w.heap.size + 1) → NC W2 (w.heap.size + 1) →
        body.wpIn (Fence.wide.inRound l) (m - 1 - 1) P (goesOn I Fb w.heap.size (pre ++ [x]) W W2) a₁ W2) (fun _ _ _ => False))
        { tmps := (ps.zip #[enc x]).foldl (fun t (p, v) => t.setIfInBounds p v) a.tmps, defers := [] } W)
    (hdone : ∀ (xs : List α) (W : World), S xs → I xs W → W.heap[w.heap.size]? = some (.deferred (some [])) → Q .normal { a with defers := { target := .collected w.heap.size, args := #[] } :: a.defers } W) :
    (Code.rangeFunc g ps assign body).wpIn Fence.wide m P Q a w := by
  refine wpIn_rangeFunc fun fn hfn => ?_
  obtain ⟨rc, hrc⟩ : ∃ rc : LoopState → Loop, rc = fun st => { state := st, pending := none, fn, tmps := a.tmps, params := ps, assign, body, defers := w.heap.size } := ⟨_, rfl⟩
  obtain ⟨V, hV⟩ : ∃ V, V = (w.alloc (.deferred (some []))).alloc (.loop (rc .ready)) := ⟨_, rfl⟩
  have hsz : (w.alloc (.deferred (some []))).heap.size = w.heap.size + 1 := by simp
  have b1 : Below w.heap.size w V := by rw [hV]; exact ((Below.refl _ w).alloc (Nat.le_refl _) _).alloc (by simp) _
  have vl : V.heap[w.heap.size + 1]? = some (.loop (rc .ready)) := by
    rw [hV, ← hsz]; exact World.alloc_heap_new _ _
  have vd : V.heap[w.heap.size]? = some (.deferred (some [])) := by
    rw [hV]; exact (Below.heap_alloc _ _ _ (by simp)).trans (World.alloc_heap_new w _)
  have nc0 : NC w (w.heap.size + 1) := fun c t z e => by
    have := (Array.getElem?_eq_some_iff.1 e).1
    omega
  have ncl : ∀ (A : World) (st : Loop), A.heap[w.heap.size + 1]? = some (.loop st) → NC A (w.heap.size + 1) := fun A st e c t z e2 => by
    rw [e] at e2; cases e2
  refine ⟨w.heap.size + 1, [{ target := .collected w.heap.size, args := #[] }], V, { target := .fn (.func gf) lb, args := #[.func (.yield (w.heap.size + 1)) #[] #[]] }, V, gf,
    #[.func (.yield (w.heap.size + 1)) #[] #[]] ++ lb, V, ?_, ?_, fun _ _ => trivial, ?_, fun _ => h1, ?_⟩
  · rw [hV, hrc]; exact run_enterLoop_outer _ _ _ _ _
  · simp only [resolve, hg]
    simp [go_sem]
  · simp [invoke, go_sem, eg]
  refine (hseq (w.heap.size + 1) (fun s A => I s A ∧ A.heap[w.heap.size + 1]? = some (.loop (rc .ready)) ∧ A.heap[w.heap.size]? = some (.deferred (some []))) V b1 ?_ ?_ ⟨hI _ _ _ h0 nc0 (Fr.of_below b1 _), vl, vd⟩).mono ?_
  · rintro s A B ⟨i, la, da⟩ hb
    exact ⟨hI _ _ _ i (ncl A _ la) (Fr.of_below hb _), (hb.block _ (Array.getElem?_eq_some_iff.1 la).1).trans la, (hb.block _ (Array.getElem?_eq_some_iff.1 da).1).trans da⟩
  · rintro pre x A ⟨i, la, da⟩ hx hG
    have hla : w.heap.size + 1 < A.heap.size := (Array.getElem?_eq_some_iff.1 la).1
    have hy := run_yield (P := P) (args := #[enc x]) la (by rw [hrc]; simp [hps])
    rw [hrc] at hy
    refine ⟨fn, _, assign, body, hy, roundIn_of_wpIn hfn (wpIn_mono (hround (w.heap.size + 1) pre x A i hx hG hla (ncl A _ la)) ?_)⟩
    rintro e a1 W1 hp
    cases e with
    | normal =>
      obtain ⟨k1, hb⟩ := hp
      have l1 := k1.same _ _ la rfl
      have d1 := k1.same _ _ da rfl
      refine ⟨_, run_beginRound l1 (by rw [hrc]), ?_⟩
      obtain ⟨W2, hW2⟩ : ∃ W2, W2 = W1.putObj (w.heap.size + 1) (.loop { rc .ready with state := .busy }) := ⟨_, rfl⟩
      have hl1 : w.heap.size + 1 < W1.heap.size := (Array.getElem?_eq_some_iff.1 l1).1
      have l2 : W2.heap[w.heap.size + 1]? = some (.loop { rc .ready with state := .busy }) := by rw [hW2]; exact World.putObj_heap_same hl1
      have d2 : W2.heap[w.heap.size]? = some (.deferred (some [])) := by rw [hW2]; exact (World.putObj_heap_other (by omega)).trans d1
      rw [← hW2]
      refine wpIn_mono (hb W2 (by rw [hW2]; exact fr_putObj _ _ _) (ncl W1 _ l1) (ncl W2 _ l2)) ?_
      rintro e3 a3 W3 hq
      cases e3 with
      | normal =>
        obtain ⟨k3, f3, i3⟩ := hq
        have l3 := k3.same _ _ l2 rfl
        have d3 := k3.same _ _ d2 rfl
        have hr := run_endRound (P := P) none l3
        have hl3 : w.heap.size + 1 < W3.heap.size := (Array.getElem?_eq_some_iff.1 l3).1
        have fp := fr_putObj W3 (w.heap.size + 1) (.loop { rc .ready with state := .ready })
        refine ⟨_, _, hr, rfl, ⟨hI _ _ _ i3 (ncl W3 _ l3) (fr_putObj _ _ _), ?_, (World.putObj_heap_other (by omega)).trans d3⟩, f3.on ((fr_putObj _ _ _).mono (fun q _ e => .inr (by omega)))⟩
        rw [World.putObj_heap_same hl3, hrc]
        rfl
      | ret => exact hq.elim
      | exit id => exact hq.elim
      | goto t => exact hq.elim
      | panic ch => exact hq.elim
      | outgrown => exact hq.elim
    | ret => exact hp.elim
    | exit id => exact hp.elim
    | goto t => exact hp.elim
    | panic ch => exact hp.elim
    | outgrown => exact hp.elim
  · rintro e W2 ⟨⟨v, rfl⟩, xs, hS, i, l2, d2⟩
    have hr := run_endLoop (P := P) l2 (by rw [hrc]; simp)
    refine ⟨none, _, by rw [hr, hrc], hdone xs _ hS (hI _ _ _ i (ncl W2 _ l2) (fr_putObj _ _ _)) ((World.putObj_heap_other (by omega)).trans d2)⟩
end Go.Proofs.Ytggjpallbapcmaa.Bk
/-
  The book: behind 29; what is read.
-/
namespace Go.Proofs.Ytggjpallbapcmaa.Bk
open Go.RowKit
attribute [local go_sem] Oper.semAt_some
theorem behind_any {w : World} (t : Nat) (from_ most : Int) : CallsIn Fence.wide 3 Try.prog 58 #[.pointer (some ⟨t, 0, none⟩), .int .i64 from_, .int .i64 most] w fun e w' =>
    e = .returned (.func (.func 81) #[] #[.pointer (some ⟨w.heap.size, 0, none⟩), .pointer (some ⟨w.heap.size + 1, 0, none⟩), .pointer (some ⟨w.heap.size + 2, 0, none⟩)]) ∧
      w' = ((w.alloc (.cells #[.pointer (some ⟨t, 0, none⟩)] 76)).alloc (.cells #[.int .i64 from_] 3)).alloc (.cells #[.int .i64 most] 3) := by
  refine (callsIn_wide (n := 3)).2 ?_
  go_enter Try.func58, Try.ntmps58
  go_wp2_with fail
  go_ret
  exact ⟨rfl, rfl⟩
/-- which matches are read -/
def sub (base : Int) (LL : List (List Int)) (from_ most : Int) : List (List Int) := (LL.drop (from_ - base).toNat).take most.toNat
abbrev Mv := Value × List Int
def encM (x : Mv) : Value := .agg #[x.1]
theorem pre_step {LL : List (List Int)} {k : Nat} (h : k < LL.length) {pre : List Mv} (hp : pre.map (·.2) = LL.take k) (u : Value) : (pre ++ [(u, LL[k])]).map (·.2) = LL.take (k + 1) := by
  rw [List.map_append, hp, List.take_succ_eq_append_getElem h]
  rfl
end Go.Proofs.Ytggjpallbapcmaa.Bk
/-
  The book: the function that yields, 39, where there is nothing to give.
-/
namespace Go.Proofs.Ytggjpallbapcmaa.Bk
open Go.RowKit
attribute [local go_sem] Oper.semAt_some
set_option maxHeartbeats 8000000 in
set_option maxRecDepth 100000 in
theorem yields0 {w : World} {Bk : Nat → Prop} {Fb : Nat → Prop} {t bt bf bm : Nat} {base from_ most : Int} {LL : List (List Int)} (m : Nat)
    (h : BookAt w Bk t base LL) (ok : BOk base LL) (hf : base ≤ from_) (hf2 : from_ ≤ 9223372036854775807) (hmo : 0 ≤ most)
    (kt : Blk w bt 76 #[.pointer (some ⟨t, 0, none⟩)]) (kf : Blk w bf 3 #[.int .i64 from_]) (km : Blk w bm 3 #[.int .i64 most])
    (hz : (sub base LL from_ most).length = 0) :
    Gives Try.prog m 81 #[.pointer (some ⟨bt, 0, none⟩), .pointer (some ⟨bf, 0, none⟩), .pointer (some ⟨bm, 0, none⟩)] encM (fun x W => OwnN W w.heap.size x.1 x.2)
      (fun l => l.map (·.2) <+: sub base LL from_ most) (fun l => l.map (·.2) = sub base LL from_ most) Fb w := by
  intro l J W hW hJ hY h0
  have o0 := ok.b0
  have o1 := ok.b1
  have o2 := ok.n
  have HB := h.next hW
  obtain ⟨v, cs, kb, r, e, ht, hv, hlt⟩ := HB
  have hcl := e.1
  obtain ⟨va, vc, rfl, hvc, hvc2⟩ := r.form
  have b0 : W.cell? ⟨bt, 0, none⟩ = some (.pointer (some ⟨t, 0, none⟩)) := (kt.next hW).cell 0
  have b1 : W.cell? ⟨bf, 0, none⟩ = some (.int .i64 from_) := (kf.next hW).cell 0
  have b2 : W.cell? ⟨bm, 0, none⟩ = some (.int .i64 most) := (km.next hW).cell 0
  have c0 : W.cell? ⟨t, 0, none⟩ = some (.int .i64 base) := kb.cell 0
  have c1 : W.cell? ⟨t, 1, none⟩ = some (.slice va cs.length vc) := kb.cell 1
  -- the two cuts
  obtain ⟨d, hd⟩ : ∃ d : Nat, d = (if (from_ - base).toNat ≤ cs.length then (from_ - base).toNat else cs.length) := ⟨_, rfl⟩
  have hdl : d ≤ cs.length := by rw [hd]; split <;> omega
  obtain ⟨n, hn⟩ : ∃ n : Nat, n = (if most.toNat ≤ cs.length - d then most.toNat else cs.length - d) := ⟨_, rfl⟩
  have hnl : n ≤ cs.length - d := by rw [hn]; split <;> omega
  have hsub : sub base LL from_ most = (LL.drop d).take n := by
    unfold sub
    rw [hd]
    by_cases h1 : (from_ - base).toNat ≤ cs.length
    · rw [if_pos h1] at hd ⊢
      rw [hn]
      by_cases h2 : most.toNat ≤ cs.length - d
      · rw [if_pos h2]
      · rw [if_neg h2, List.take_of_length_le (by rw [List.length_drop]; omega), List.take_of_length_le (by rw [List.length_drop]; omega)]
    · rw [if_neg h1, List.drop_of_length_le (by omega), List.drop_of_length_le (by omega), List.take_nil, List.take_nil]
  have hsl : (sub base LL from_ most).length = n := by rw [hsub, List.length_take, List.length_drop]; omega
  have hmin1 : (if (cs.length : Int) < from_ - base then (cs.length : Int) else from_ - base) = (d : Int) := by
    rw [hd]; split <;> split <;> omega
  have hmin2 : (if ((cs.length - d : Nat) : Int) < most then ((cs.length - d : Nat) : Int) else most) = (n : Int) := by
    rw [hn]; split <;> split <;> omega
  have hfb : IntKind.i64.wrap (from_ - base) = from_ - base := by rw [IntKind.wrap_i64]; omega
  have hdI : (d : Int) ≤ (cs.length : Int) := by omega
  refine callsIn_of_wp Try.func81 rfl trivial ?_ rfl
  simp only [Try.ntmps81, List.size_toArray, List.length_cons, List.length_nil, Nat.reduceAdd, Nat.reduceSub, Array.replicate_succ, Array.replicate_zero, List.push_toArray, List.append_toArray, List.nil_append, List.cons_append]
  obtain ⟨SL, hSL⟩ : ∃ SL, SL = sub base LL from_ most := ⟨_, rfl⟩
  rw [← hSL] at hsub hsl hY ⊢
  have HJ1 : Hid (J [] W.drew) := Lib.hid (hJ _ _ _ h0 (Below.refl _ W).drew)
  have HSL := Lib.hid hsl
  have HW := Lib.hid hW
  have HHJ := Lib.hid hJ
  have HHY := Lib.hid hY
  have hvcI : (cs.length : Int) ≤ (vc : Int) := by omega
  have hvcI2 : (d : Int) ≤ (vc : Int) := by omega
  have hlen64 : cs.length ≤ 64 := by omega
  rw [← hSL] at hz
  have hn0 : n = 0 := by omega
  have HS0 : Hid (List.map (fun x : Mv => x.2) [] = SL) := Lib.hid (by rw [List.map_nil]; exact (List.length_eq_zero_iff.1 (by rw [hsl, hn0])).symm)
  clear hz r e kb hv hlt hsub hsl h0 hJ hY hW kt kf km ht h ok hd hn hSL HHY HHJ HW HSL o2
  generalize LL.length = nn at *
  clear hcl
  generalize hZ : cs.length = z at *
  clear hZ
  subst hn0
  by_cases hA : (z : Int) < from_ - base
  · obtain rfl : d = z := by rw [if_pos hA] at hmin1; omega
    have hAB := decide_eq_true hA
    have hfd : d - d = 0 := by omega
    have hM : ¬ most < ((0 : Nat) : Int) := by omega
    clear hmin1 hmin2
    by_cases hM : ((0 : Nat) : Int) < most
    · have hMB := decide_eq_true hM
      by_cases hdv : vc = d
      · subst hdv
        gi_wp2
        gi_region
        all_goals gi_wp2
        all_goals
          gi_loopw [32] (fun i wr => i = .int .i64 0 ∧ Hid (J [] wr)) (fun _ _ => 0)
          case atStart => exact ⟨rfl, HJ1⟩
          case round =>
            obtain ⟨rfl, hJs⟩ := hrel
            gi_wp2
            go_end0
            exact ⟨⟨_, rfl⟩, [], HS0.out, hJs.out⟩
      · gi_wp2
        gi_region
        all_goals gi_wp2
        all_goals
          gi_loopw [32] (fun i wr => i = .int .i64 0 ∧ Hid (J [] wr)) (fun _ _ => 0)
          case atStart => exact ⟨rfl, HJ1⟩
          case round =>
            obtain ⟨rfl, hJs⟩ := hrel
            gi_wp2
            go_end0
            exact ⟨⟨_, rfl⟩, [], HS0.out, hJs.out⟩
    · obtain rfl : most = 0 := by omega
      clear hM
      by_cases hdv : vc = d
      · subst hdv
        gi_wp2
        gi_region
        all_goals gi_wp2
        all_goals
          gi_loopw [32] (fun i wr => i = .int .i64 0 ∧ Hid (J [] wr)) (fun _ _ => 0)
          case atStart => exact ⟨rfl, HJ1⟩
          case round =>
            obtain ⟨rfl, hJs⟩ := hrel
            gi_wp2
            go_end0
            exact ⟨⟨_, rfl⟩, [], HS0.out, hJs.out⟩
      · gi_wp2
        gi_region
        all_goals gi_wp2
        all_goals
          gi_loopw [32] (fun i wr => i = .int .i64 0 ∧ Hid (J [] wr)) (fun _ _ => 0)
          case atStart => exact ⟨rfl, HJ1⟩
          case round =>
            obtain ⟨rfl, hJs⟩ := hrel
            gi_wp2
            go_end0
            exact ⟨⟨_, rfl⟩, [], HS0.out, hJs.out⟩
  · have hfd : from_ - base = (d : Int) := by rw [if_neg hA] at hmin1; omega
    clear hfb hmin1 hA
    have hAB : decide ((z : Int) < (d : Int)) = false := decide_eq_false (by omega)
    by_cases hM : ((z - d : Nat) : Int) < most
    · have hzd : z = d := by rw [if_pos hM] at hmin2; omega
      subst hzd
      have hzz : z - z = 0 := by omega
      have hMB := decide_eq_true hM
      clear hmin2
      by_cases hdv : vc = z
      · subst hdv
        gi_wp2
        gi_region
        all_goals gi_wp2
        all_goals
          gi_loopw [32] (fun i wr => i = .int .i64 0 ∧ Hid (J [] wr)) (fun _ _ => 0)
          case atStart => exact ⟨rfl, HJ1⟩
          case round =>
            obtain ⟨rfl, hJs⟩ := hrel
            gi_wp2
            go_end0
            exact ⟨⟨_, rfl⟩, [], HS0.out, hJs.out⟩
      · gi_wp2
        gi_region
        all_goals gi_wp2
        all_goals
          gi_loopw [32] (fun i wr => i = .int .i64 0 ∧ Hid (J [] wr)) (fun _ _ => 0)
          case atStart => exact ⟨rfl, HJ1⟩
          case round =>
            obtain ⟨rfl, hJs⟩ := hrel
            gi_wp2
            go_end0
            exact ⟨⟨_, rfl⟩, [], HS0.out, hJs.out⟩
    · have hmn : most = 0 := by rw [if_neg hM] at hmin2; omega
      subst hmn
      have hMB := decide_eq_false hM
      clear hmin2 hM
      by_cases hdv : vc = d
      · subst hdv
        gi_wp2
        gi_region
        all_goals gi_wp2
        all_goals
          gi_loopw [32] (fun i wr => i = .int .i64 0 ∧ Hid (J [] wr)) (fun _ _ => 0)
          case atStart => exact ⟨rfl, HJ1⟩
          case round =>
            obtain ⟨rfl, hJs⟩ := hrel
            gi_wp2
            go_end0
            exact ⟨⟨_, rfl⟩, [], HS0.out, hJs.out⟩
      · gi_wp2
        gi_region
        all_goals gi_wp2
        all_goals
          gi_loopw [32] (fun i wr => i = .int .i64 0 ∧ Hid (J [] wr)) (fun _ _ => 0)
          case atStart => exact ⟨rfl, HJ1⟩
          case round =>
            obtain ⟨rfl, hJs⟩ := hrel
            gi_wp2
            go_end0
            exact ⟨⟨_, rfl⟩, [], HS0.out, hJs.out⟩
end Go.Proofs.Ytggjpallbapcmaa.Bk
