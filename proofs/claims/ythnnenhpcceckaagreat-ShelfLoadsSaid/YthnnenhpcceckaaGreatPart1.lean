/-
  WHAT THE ROWS REST ON, part 1: BNum BRnum BWrites BFront Map Files Putp.
-/
import Derived.Test.YthnnenhpcceckaaGreatRows
import Derived.WalkKit
import Derived.WalkSpells
import Derived.WalkLawsBesides
import Derived.Lib.Zigzag
import Derived.Handy
import Derived.Lib.Hide
import Derived.Laws.BytesArg
import Derived.Laws.AppendOwn
import Derived.Laws.OwnMore
import Derived.OwnWalk
import Derived.Lib.SmallJoins
import Derived.Test.YthnnenhpcceckaaGreatProg
import Derived.Maps.OwnSet
import Derived.Maps.Ext
import Derived.BigRegion
import Derived.Deep.QuietTactic
import Derived.BigQuiet
import Derived.Lib.BufferWrite
import Derived.Lib.AppendStr
/-
  THE WALKS OF bits.lay, bits.fold, bits.Num: what each answers, and that nothing that was there has turned.
-/
namespace Go.Proofs.YthnnenhpcceckaaGreat.Bt
open Go.RowKit

/-- n's lowest k bytes, the highest first -/
def be : Nat → Int → List Int
  | 0, _ => []
  | k + 1, n => be k (n / 256) ++ [n % 256]
/-- how many bytes n has -/
def wid (n : Int) : Nat := if n < 256 then 1 else if n < 65536 then 2 else if n < 16777216 then 3 else if n < 4294967296 then 4 else if n < 1099511627776 then 5 else if n < 281474976710656 then 6 else if n < 72057594037927936 then 7 else 8
/-- a number's bytes, as the document says -/
def numI (n : Int) : List Int := if n ≤ 247 then [n] else ((247 + wid n : Nat) : Int) :: be (wid n) n
def numS (n : Int) : ByteArray := strOfNums (numI n)

theorem fold_eq (n : Int) (h0 : -9223372036854775808 ≤ n) (h1 : n ≤ 9223372036854775807) :
    bits BinOp.xor IntKind.u64 (IntKind.u64.wrap (IntKind.u64.wrap n * 2)) (IntKind.u64.wrap (n / 9223372036854775808)) = ((Lib.zigzag n : Nat) : Int) := by
  by_cases hn : 0 ≤ n
  · have e1 : n / 9223372036854775808 = 0 := by omega
    have e2 : IntKind.u64.wrap (0 : Int) = ((0 : Nat) : Int) := by decide
    have e3 : IntKind.u64.wrap (IntKind.u64.wrap n * 2) = (((2 * n).toNat : Nat) : Int) := by
      rw [IntKind.wrap_u64, IntKind.wrap_u64]; omega
    rw [e1, e2, e3, bits_xor_u64_nat _ _ (by omega) (by decide), Nat.xor_zero]
    unfold Lib.zigzag; rw [if_pos hn]
  · have e1 : n / 9223372036854775808 = -1 := by omega
    have e2 : IntKind.u64.wrap (-1 : Int) = ((2 ^ 64 - 1 : Nat) : Int) := by decide
    have e3 : IntKind.u64.wrap (IntKind.u64.wrap n * 2) = (((2 * n + 18446744073709551616).toNat : Nat) : Int) := by
      rw [IntKind.wrap_u64, IntKind.wrap_u64]; omega
    rw [e1, e2, e3, bits_xor_u64_nat _ _ (by omega) (by decide), Nat.xor_comm, Lib.xor_ones64 _ (by omega)]
    unfold Lib.zigzag; rw [if_neg hn]; omega
theorem fold_any (n : Int) (h0 : -9223372036854775808 ≤ n) (h1 : n ≤ 9223372036854775807) (w : World) :
    Calls Tryz.prog 94 #[.int .i64 n] w fun e w' => e = .returned (.int .u64 ((Lib.zigzag n : Nat) : Int)) ∧ w = w' := by
  have H := Lib.hid (fold_eq n h0 h1)
  go_enter Tryz.func94, Tryz.ntmps94
  go_wp2
  go_ret
  exact ⟨by rw [← H.out]; rfl, rfl⟩

/-- the nine bytes that lay answers -/
def laid (n : Int) : Array Value := #[.int .u8 0, .int .u8 (n / 256 / 256 / 256 / 256 / 256 / 256 / 256), .int .u8 (n / 256 / 256 / 256 / 256 / 256 / 256 % 256), .int .u8 (n / 256 / 256 / 256 / 256 / 256 % 256), .int .u8 (n / 256 / 256 / 256 / 256 % 256), .int .u8 (n / 256 / 256 / 256 % 256), .int .u8 (n / 256 / 256 % 256), .int .u8 (n / 256 % 256), .int .u8 (n % 256)]
set_option maxRecDepth 100000 in
set_option maxHeartbeats 1000000 in
theorem lay_any (n : Int) (h0 : 0 ≤ n) (h1 : n < 18446744073709551616) (w : World) :
    Calls Tryz.prog 93 #[.int .u64 n] w fun e w' => e = .returned (.agg (laid n)) ∧ w.alloc (.cells (laid n) 157) = w' := by
  go_enter Tryz.func93, Tryz.ntmps93
  go_wp2
  go_rounds 9
  go_returns
  exact ⟨rfl, rfl⟩
theorem lay_cells (cs : Array Value) (n : Int) (h0 : 0 ≤ n) (h1 : n < 18446744073709551616) (hc : laid n = cs) (w : World) :
    Calls Tryz.prog 93 #[.int .u64 n] w fun e w' => e = .returned (.agg cs) ∧ Below w.heap.size w w' :=
  (lay_any n h0 h1 w).mono fun e w' ⟨he, hw⟩ => ⟨by rw [he, hc], by subst hw; exact (Below.refl _ _).alloc (Nat.le_refl _) _⟩

/-- a new block's bytes as a string, from one of them on -/
theorem conv_new (W : World) (cs : List Value) (xs : List Int) (off : Nat) (h : cs.drop off = xs.map (Value.int .u8)) (len : Nat) (hl : xs.length = len) (t cap : Nat) :
    (convert 55 9 (.slice (some ⟨W.heap.size, off, none⟩) len cap)).run Tryz.prog (W.alloc (.cells cs.toArray t)) = .ok (.string (strOfNums xs)) (W.alloc (.cells cs.toArray t)) := by
  refine run_convert_bytes_arg (P := Tryz.prog) _ 55 5 Tryz.underlying55 Tryz.underlying5 W.heap.size off len cap xs hl ?_ 9 Tryz.underlying9
  intro i hi
  rw [World.cell?_alloc_new]
  have e := congrArg (fun l => l[i]?) h
  simp only [List.getElem?_drop, List.getElem?_map] at e
  rw [List.getElem?_toArray, e, List.getElem?_eq_getElem (by omega)]
  simp [List.getD, List.getElem?_eq_getElem (show i < xs.length by omega)]


set_option maxRecDepth 100000 in
set_option maxHeartbeats 1000000 in
theorem num_1 (n c8 : Int) (h0 : 247 < n) (h1 : n < 18446744073709551616) (hc : laid n = #[.int .u8 0, .int .u8 0, .int .u8 0, .int .u8 0, .int .u8 0, .int .u8 0, .int .u8 0, .int .u8 0, .int .u8 c8]) (hz : (c8 == 0) = false) (w : World) :
    Calls Tryz.prog 71 #[.int .u64 n] w fun e w' => e = .returned (.string (strOfNums [248, c8])) ∧ Below w.heap.size w w' := by
  have Hc := Lib.hid hc
  clear hc
  have hn : ¬ n ≤ 247 := by omega
  have hconv := fun W : World => conv_new W [.int .u8 0, .int .u8 0, .int .u8 0, .int .u8 0, .int .u8 0, .int .u8 0, .int .u8 0, .int .u8 248, .int .u8 c8] [248, c8] 7 rfl 2 rfl 157 2
  go_enter Tryz.func71, Tryz.ntmps71
  go_wp2_with (go_at_call 93; refine (lay_cells _ _ (by omega) (by omega) Hc.out _).mono ?_; rintro e w1 ⟨rfl, hb⟩)
  go_rounds 9
  go_ret
  exact ⟨rfl, hb.alloc hb.size _⟩


set_option maxRecDepth 100000 in
set_option maxHeartbeats 1000000 in
theorem num_2 (n c7 c8 : Int) (h0 : 247 < n) (h1 : n < 18446744073709551616) (hc : laid n = #[.int .u8 0, .int .u8 0, .int .u8 0, .int .u8 0, .int .u8 0, .int .u8 0, .int .u8 0, .int .u8 c7, .int .u8 c8]) (hz : (c7 == 0) = false) (w : World) :
    Calls Tryz.prog 71 #[.int .u64 n] w fun e w' => e = .returned (.string (strOfNums [249, c7, c8])) ∧ Below w.heap.size w w' := by
  have Hc := Lib.hid hc
  clear hc
  have hn : ¬ n ≤ 247 := by omega
  have hconv := fun W : World => conv_new W [.int .u8 0, .int .u8 0, .int .u8 0, .int .u8 0, .int .u8 0, .int .u8 0, .int .u8 249, .int .u8 c7, .int .u8 c8] [249, c7, c8] 6 rfl 3 rfl 157 3
  go_enter Tryz.func71, Tryz.ntmps71
  go_wp2_with (go_at_call 93; refine (lay_cells _ _ (by omega) (by omega) Hc.out _).mono ?_; rintro e w1 ⟨rfl, hb⟩)
  go_rounds 9
  go_ret
  exact ⟨rfl, hb.alloc hb.size _⟩


set_option maxRecDepth 100000 in
set_option maxHeartbeats 1000000 in
theorem num_3 (n c6 c7 c8 : Int) (h0 : 247 < n) (h1 : n < 18446744073709551616) (hc : laid n = #[.int .u8 0, .int .u8 0, .int .u8 0, .int .u8 0, .int .u8 0, .int .u8 0, .int .u8 c6, .int .u8 c7, .int .u8 c8]) (hz : (c6 == 0) = false) (w : World) :
    Calls Tryz.prog 71 #[.int .u64 n] w fun e w' => e = .returned (.string (strOfNums [250, c6, c7, c8])) ∧ Below w.heap.size w w' := by
  have Hc := Lib.hid hc
  clear hc
  have hn : ¬ n ≤ 247 := by omega
  have hconv := fun W : World => conv_new W [.int .u8 0, .int .u8 0, .int .u8 0, .int .u8 0, .int .u8 0, .int .u8 250, .int .u8 c6, .int .u8 c7, .int .u8 c8] [250, c6, c7, c8] 5 rfl 4 rfl 157 4
  go_enter Tryz.func71, Tryz.ntmps71
  go_wp2_with (go_at_call 93; refine (lay_cells _ _ (by omega) (by omega) Hc.out _).mono ?_; rintro e w1 ⟨rfl, hb⟩)
  go_rounds 9
  go_ret
  exact ⟨rfl, hb.alloc hb.size _⟩


set_option maxRecDepth 100000 in
set_option maxHeartbeats 1000000 in
theorem num_4 (n c5 c6 c7 c8 : Int) (h0 : 247 < n) (h1 : n < 18446744073709551616) (hc : laid n = #[.int .u8 0, .int .u8 0, .int .u8 0, .int .u8 0, .int .u8 0, .int .u8 c5, .int .u8 c6, .int .u8 c7, .int .u8 c8]) (hz : (c5 == 0) = false) (w : World) :
    Calls Tryz.prog 71 #[.int .u64 n] w fun e w' => e = .returned (.string (strOfNums [251, c5, c6, c7, c8])) ∧ Below w.heap.size w w' := by
  have Hc := Lib.hid hc
  clear hc
  have hn : ¬ n ≤ 247 := by omega
  have hconv := fun W : World => conv_new W [.int .u8 0, .int .u8 0, .int .u8 0, .int .u8 0, .int .u8 251, .int .u8 c5, .int .u8 c6, .int .u8 c7, .int .u8 c8] [251, c5, c6, c7, c8] 4 rfl 5 rfl 157 5
  go_enter Tryz.func71, Tryz.ntmps71
  go_wp2_with (go_at_call 93; refine (lay_cells _ _ (by omega) (by omega) Hc.out _).mono ?_; rintro e w1 ⟨rfl, hb⟩)
  go_rounds 9
  go_ret
  exact ⟨rfl, hb.alloc hb.size _⟩


set_option maxRecDepth 100000 in
set_option maxHeartbeats 1000000 in
theorem num_5 (n c4 c5 c6 c7 c8 : Int) (h0 : 247 < n) (h1 : n < 18446744073709551616) (hc : laid n = #[.int .u8 0, .int .u8 0, .int .u8 0, .int .u8 0, .int .u8 c4, .int .u8 c5, .int .u8 c6, .int .u8 c7, .int .u8 c8]) (hz : (c4 == 0) = false) (w : World) :
    Calls Tryz.prog 71 #[.int .u64 n] w fun e w' => e = .returned (.string (strOfNums [252, c4, c5, c6, c7, c8])) ∧ Below w.heap.size w w' := by
  have Hc := Lib.hid hc
  clear hc
  have hn : ¬ n ≤ 247 := by omega
  have hconv := fun W : World => conv_new W [.int .u8 0, .int .u8 0, .int .u8 0, .int .u8 252, .int .u8 c4, .int .u8 c5, .int .u8 c6, .int .u8 c7, .int .u8 c8] [252, c4, c5, c6, c7, c8] 3 rfl 6 rfl 157 6
  go_enter Tryz.func71, Tryz.ntmps71
  go_wp2_with (go_at_call 93; refine (lay_cells _ _ (by omega) (by omega) Hc.out _).mono ?_; rintro e w1 ⟨rfl, hb⟩)
  go_rounds 9
  go_ret
  exact ⟨rfl, hb.alloc hb.size _⟩


set_option maxRecDepth 100000 in
set_option maxHeartbeats 1000000 in
theorem num_6 (n c3 c4 c5 c6 c7 c8 : Int) (h0 : 247 < n) (h1 : n < 18446744073709551616) (hc : laid n = #[.int .u8 0, .int .u8 0, .int .u8 0, .int .u8 c3, .int .u8 c4, .int .u8 c5, .int .u8 c6, .int .u8 c7, .int .u8 c8]) (hz : (c3 == 0) = false) (w : World) :
    Calls Tryz.prog 71 #[.int .u64 n] w fun e w' => e = .returned (.string (strOfNums [253, c3, c4, c5, c6, c7, c8])) ∧ Below w.heap.size w w' := by
  have Hc := Lib.hid hc
  clear hc
  have hn : ¬ n ≤ 247 := by omega
  have hconv := fun W : World => conv_new W [.int .u8 0, .int .u8 0, .int .u8 253, .int .u8 c3, .int .u8 c4, .int .u8 c5, .int .u8 c6, .int .u8 c7, .int .u8 c8] [253, c3, c4, c5, c6, c7, c8] 2 rfl 7 rfl 157 7
  go_enter Tryz.func71, Tryz.ntmps71
  go_wp2_with (go_at_call 93; refine (lay_cells _ _ (by omega) (by omega) Hc.out _).mono ?_; rintro e w1 ⟨rfl, hb⟩)
  go_rounds 9
  go_ret
  exact ⟨rfl, hb.alloc hb.size _⟩


set_option maxRecDepth 100000 in
set_option maxHeartbeats 1000000 in
theorem num_7 (n c2 c3 c4 c5 c6 c7 c8 : Int) (h0 : 247 < n) (h1 : n < 18446744073709551616) (hc : laid n = #[.int .u8 0, .int .u8 0, .int .u8 c2, .int .u8 c3, .int .u8 c4, .int .u8 c5, .int .u8 c6, .int .u8 c7, .int .u8 c8]) (hz : (c2 == 0) = false) (w : World) :
    Calls Tryz.prog 71 #[.int .u64 n] w fun e w' => e = .returned (.string (strOfNums [254, c2, c3, c4, c5, c6, c7, c8])) ∧ Below w.heap.size w w' := by
  have Hc := Lib.hid hc
  clear hc
  have hn : ¬ n ≤ 247 := by omega
  have hconv := fun W : World => conv_new W [.int .u8 0, .int .u8 254, .int .u8 c2, .int .u8 c3, .int .u8 c4, .int .u8 c5, .int .u8 c6, .int .u8 c7, .int .u8 c8] [254, c2, c3, c4, c5, c6, c7, c8] 1 rfl 8 rfl 157 8
  go_enter Tryz.func71, Tryz.ntmps71
  go_wp2_with (go_at_call 93; refine (lay_cells _ _ (by omega) (by omega) Hc.out _).mono ?_; rintro e w1 ⟨rfl, hb⟩)
  go_rounds 9
  go_ret
  exact ⟨rfl, hb.alloc hb.size _⟩


set_option maxRecDepth 100000 in
set_option maxHeartbeats 1000000 in
theorem num_8 (n c1 c2 c3 c4 c5 c6 c7 c8 : Int) (h0 : 247 < n) (h1 : n < 18446744073709551616) (hc : laid n = #[.int .u8 0, .int .u8 c1, .int .u8 c2, .int .u8 c3, .int .u8 c4, .int .u8 c5, .int .u8 c6, .int .u8 c7, .int .u8 c8]) (hz : (c1 == 0) = false) (w : World) :
    Calls Tryz.prog 71 #[.int .u64 n] w fun e w' => e = .returned (.string (strOfNums [255, c1, c2, c3, c4, c5, c6, c7, c8])) ∧ Below w.heap.size w w' := by
  have Hc := Lib.hid hc
  clear hc
  have hn : ¬ n ≤ 247 := by omega
  have hconv := fun W : World => conv_new W [.int .u8 255, .int .u8 c1, .int .u8 c2, .int .u8 c3, .int .u8 c4, .int .u8 c5, .int .u8 c6, .int .u8 c7, .int .u8 c8] [255, c1, c2, c3, c4, c5, c6, c7, c8] 0 rfl 9 rfl 157 9
  go_enter Tryz.func71, Tryz.ntmps71
  go_wp2_with (go_at_call 93; refine (lay_cells _ _ (by omega) (by omega) Hc.out _).mono ?_; rintro e w1 ⟨rfl, hb⟩)
  go_rounds 9
  go_ret
  exact ⟨rfl, hb.alloc hb.size _⟩


theorem num_0 (n : Int) (h0 : 0 ≤ n) (h1 : n ≤ 247) (w : World) :
    Calls Tryz.prog 71 #[.int .u64 n] w fun e w' => e = .returned (.string (strOfNums [n])) ∧ Below w.heap.size w w' := by
  have hconv := fun W : World => conv_new W [.int .u8 n] [n] 0 rfl 1 rfl 5 1
  go_enter Tryz.func71, Tryz.ntmps71
  go_wp2
  go_ret
  exact ⟨rfl, (Below.refl _ _).alloc (Nat.le_refl _) _⟩


theorem num_any (n : Int) (h0 : 0 ≤ n) (h1 : n < 18446744073709551616) (w : World) :
    Calls Tryz.prog 71 #[.int .u64 n] w fun e w' => e = .returned (.string (numS n)) ∧ Below w.heap.size w w' := by
  unfold numS numI wid
  by_cases hn : n ≤ 247
  · rw [if_pos hn]; exact num_0 n h0 hn w
  rw [if_neg hn]
  by_cases g1 : n < 256
  · rw [if_pos g1]
    refine num_1 n (n % 256) (by omega) h1 ?_ (beq_eq_false_iff_ne.2 (by omega)) w
    unfold laid; congr 1; simp only [List.cons.injEq, Value.int.injEq, true_and, and_true]; omega
  by_cases g2 : n < 65536
  · rw [if_neg g1, if_pos g2]
    refine num_2 n (n / 256 % 256) (n % 256) (by omega) h1 ?_ (beq_eq_false_iff_ne.2 (by omega)) w
    unfold laid; congr 1; simp only [List.cons.injEq, Value.int.injEq, true_and, and_true]; omega
  by_cases g3 : n < 16777216
  · rw [if_neg g1, if_neg g2, if_pos g3]
    refine num_3 n (n / 256 / 256 % 256) (n / 256 % 256) (n % 256) (by omega) h1 ?_ (beq_eq_false_iff_ne.2 (by omega)) w
    unfold laid; congr 1; simp only [List.cons.injEq, Value.int.injEq, true_and, and_true]; omega
  by_cases g4 : n < 4294967296
  · rw [if_neg g1, if_neg g2, if_neg g3, if_pos g4]
    refine num_4 n (n / 256 / 256 / 256 % 256) (n / 256 / 256 % 256) (n / 256 % 256) (n % 256) (by omega) h1 ?_ (beq_eq_false_iff_ne.2 (by omega)) w
    unfold laid; congr 1; simp only [List.cons.injEq, Value.int.injEq, true_and, and_true]; omega
  by_cases g5 : n < 1099511627776
  · rw [if_neg g1, if_neg g2, if_neg g3, if_neg g4, if_pos g5]
    refine num_5 n (n / 256 / 256 / 256 / 256 % 256) (n / 256 / 256 / 256 % 256) (n / 256 / 256 % 256) (n / 256 % 256) (n % 256) (by omega) h1 ?_ (beq_eq_false_iff_ne.2 (by omega)) w
    unfold laid; congr 1; simp only [List.cons.injEq, Value.int.injEq, true_and, and_true]; omega
  by_cases g6 : n < 281474976710656
  · rw [if_neg g1, if_neg g2, if_neg g3, if_neg g4, if_neg g5, if_pos g6]
    refine num_6 n (n / 256 / 256 / 256 / 256 / 256 % 256) (n / 256 / 256 / 256 / 256 % 256) (n / 256 / 256 / 256 % 256) (n / 256 / 256 % 256) (n / 256 % 256) (n % 256) (by omega) h1 ?_ (beq_eq_false_iff_ne.2 (by omega)) w
    unfold laid; congr 1; simp only [List.cons.injEq, Value.int.injEq, true_and, and_true]; omega
  by_cases g7 : n < 72057594037927936
  · rw [if_neg g1, if_neg g2, if_neg g3, if_neg g4, if_neg g5, if_neg g6, if_pos g7]
    refine num_7 n (n / 256 / 256 / 256 / 256 / 256 / 256 % 256) (n / 256 / 256 / 256 / 256 / 256 % 256) (n / 256 / 256 / 256 / 256 % 256) (n / 256 / 256 / 256 % 256) (n / 256 / 256 % 256) (n / 256 % 256) (n % 256) (by omega) h1 ?_ (beq_eq_false_iff_ne.2 (by omega)) w
    unfold laid; congr 1; simp only [List.cons.injEq, Value.int.injEq, true_and, and_true]; omega
  rw [if_neg g1, if_neg g2, if_neg g3, if_neg g4, if_neg g5, if_neg g6, if_neg g7]
  refine num_8 n (n / 256 / 256 / 256 / 256 / 256 / 256 / 256 % 256) (n / 256 / 256 / 256 / 256 / 256 / 256 % 256) (n / 256 / 256 / 256 / 256 / 256 % 256) (n / 256 / 256 / 256 / 256 % 256) (n / 256 / 256 / 256 % 256) (n / 256 / 256 % 256) (n / 256 % 256) (n % 256) (by omega) h1 ?_ (beq_eq_false_iff_ne.2 (by omega)) w
  unfold laid; congr 1; simp only [List.cons.injEq, Value.int.injEq, true_and, and_true]; omega

end Go.Proofs.YthnnenhpcceckaaGreat.Bt
/-
  THE WALK OF THE DOCUMENT'S OWN Num (auspiceref01): the bytes are appended one by one to a slice of its own.
-/
namespace Go.Proofs.YthnnenhpcceckaaGreat.Bt
open Go.RowKit

theorem info5 : (Tryz.prog.info? 5).map (fun i => (i.zero, i.size, i.bytes)) = some (some (.int .u8 0), 1, 1) := by kernel_rfl
/-- a slice of bytes that the call owns, from block B on -/
def Bytes (w : World) (B : Nat) (v : Value) (xs : List Int) : Prop := w.ownsRow B 5 1 v xs.length (xs.map (Value.int .u8))

theorem Bytes.lit (w : World) (B : Nat) (hb : B ≤ w.heap.size) (xs : List Int) (hm : xs.length ≤ maxLen) :
    Bytes (w.alloc (.cells (xs.map (Value.int .u8)).toArray 5)) B (.slice (some ⟨w.heap.size, 0, none⟩) xs.length xs.length) xs := by
  have h := World.ownsRow_lit (base := B) (e := 5) (size := 1) w (xs.map (Value.int .u8)).toArray xs.length hb hm (by simp)
  simpa [Bytes] using h

theorem Bytes.drew {w : World} {B : Nat} {v : Value} {xs : List Int} (h : Bytes w B v xs) : Bytes w.drew B v xs := h

theorem append_byte {ops : Array Oper} {rest : List Oper} {o : Oper} {a : Act} {Q : Exit → Act → World → Prop} (W : World) (hgd : o.guard = none) (s x : Operand)
    (ho : o.op = .call { callee := .builtin .append, args := #[s, x], argTypes := #[55, 55] })
    (B : Nat) (v : Value) (xs : List Int) (hs : a.eval s = v) (hown : Bytes W B v xs) (c : Int)
    (hx : a.eval x = .slice (some ⟨W.heap.size, 0, none⟩) 1 1) (hlen : xs.length + 1 ≤ 140737488355328) (hB : B ≤ W.heap.size)
    (h : ∀ v' w', Bytes w' B v' (xs ++ [c]) → Below B W w' → wpList Tryz.prog ops Q rest (a.put o.dst v') w') :
    wpList Tryz.prog ops Q (o :: rest) a (W.alloc (.cells #[.int .u8 c] 5)) := by
  obtain ⟨i, hi, hz0, hz1, hz2⟩ := info_parts info5
  refine wpList_append_own _ hgd s x 55 ho B 5 i (.int .u8 0) 1 1 Tryz.underlying55 hi hz0 hz1 hz2 rfl (by decide) v xs.length (xs.map (Value.int .u8)) hs (hown.alloc _) ⟨W.heap.size, 0, none⟩ 1 1 [.int .u8 c] hx rfl ?_ ?_ ?_ ?_ ?_ ?_
  · exact cell_one_new _ _ _
  · intro u hu; simp at hu; subst hu; rfl
  · unfold maxLen; omega
  · omega
  · simp; omega
  · intro v' w' ho' hg _
    refine h v' w' ?_ ?_
    · simpa [Bytes] using ho'
    · refine (((Below.refl B W).alloc hB _).grown hg (by simp; omega) ?_)
      intro k hk
      obtain ⟨_, h2⟩ := hown
      rcases h2 with ⟨rfl, _⟩ | ⟨g, cap, cur, rfl, hg', _⟩
      · simp [Value.ownBlock] at hk
      · simp [Value.ownBlock] at hk; omega


theorem conv_own {W : World} {B : Nat} {v : Value} {xs : List Int} (h : Bytes W B v xs) : (convert 55 9 v).run Tryz.prog W = .ok (.string (strOfNums xs)) W := by
  rcases Joins.ownsRow_forms h with ⟨rfl, hn⟩ | ⟨g, cap, rfl⟩
  · rw [run_convert_bytes_nil (P := Tryz.prog) W 55 5 Tryz.underlying55 Tryz.underlying5 0 0 9 Tryz.underlying9]
    rw [List.eq_nil_of_length_eq_zero hn]; rfl
  · refine run_convert_bytes_arg (P := Tryz.prog) W 55 5 Tryz.underlying55 Tryz.underlying5 g 0 xs.length cap xs rfl ?_ 9 Tryz.underlying9
    intro i hi
    have e := World.ownsRow.cellAt h i (by omega)
    rw [Nat.zero_add, e]
    simp [List.getD, List.getElem?_eq_getElem hi]



set_option maxRecDepth 100000 in
set_option maxHeartbeats 1000000 in
theorem rnum_1 (n : Int) (h0 : 248 ≤ n) (h1 : n < 256) (w : World) :
    Calls Tryz.prog 89 #[.int .u64 n] w fun e w' => e = .returned (.string (strOfNums [248, n])) ∧ Below w.heap.size w w' := by
  have hn : ¬ n ≤ 247 := by omega
  go_enter Tryz.func89, Tryz.ntmps89
  go_wp2
  go_rounds 9
  have o0 := Bytes.lit w w.heap.size (Nat.le_refl _) [248] (by decide)
  have b0 := (Below.refl w.heap.size w).alloc (Nat.le_refl _) (.cells #[.int .u8 248] 5)
  simp only [List.map_cons, List.map_nil, List.length_cons, List.length_nil, Nat.zero_add] at o0
  refine wp_loop_rounds 10 ?_
  generalize w.alloc (.cells #[.int .u8 248] 5) = w0 at *
  have z0 := b0.size
  rw [rounds_succ]
  go_wp2_with (at_builtin; refine append_byte _ rfl _ _ rfl w.heap.size _ _ rfl o0 _ rfl (by simp) (by omega) ?_; intro v1 w1 o1 b1)
  have z1 := b1.size
  have hcv := conv_own o1
  rw [rounds_succ]
  go_wp2_with fail
  go_ret
  exact ⟨rfl, (b0.trans b1)⟩


set_option maxRecDepth 100000 in
set_option maxHeartbeats 1000000 in
theorem rnum_2 (n : Int) (h0 : 256 ≤ n) (h1 : n < 65536) (w : World) :
    Calls Tryz.prog 89 #[.int .u64 n] w fun e w' => e = .returned (.string (strOfNums [249, n / 256, n % 256])) ∧ Below w.heap.size w w' := by
  have hn : ¬ n ≤ 247 := by omega
  go_enter Tryz.func89, Tryz.ntmps89
  go_wp2
  go_rounds 9
  have o0 := Bytes.lit w w.heap.size (Nat.le_refl _) [249] (by decide)
  have b0 := (Below.refl w.heap.size w).alloc (Nat.le_refl _) (.cells #[.int .u8 249] 5)
  simp only [List.map_cons, List.map_nil, List.length_cons, List.length_nil, Nat.zero_add] at o0
  refine wp_loop_rounds 10 ?_
  generalize w.alloc (.cells #[.int .u8 249] 5) = w0 at *
  have z0 := b0.size
  rw [rounds_succ]
  go_wp2_with (at_builtin; refine append_byte _ rfl _ _ rfl w.heap.size _ _ rfl o0 _ rfl (by simp) (by omega) ?_; intro v1 w1 o1 b1)
  have z1 := b1.size
  rw [rounds_succ]
  go_wp2_with (at_builtin; refine append_byte _ rfl _ _ rfl w.heap.size _ _ rfl o1 _ rfl (by simp) (by omega) ?_; intro v2 w2 o2 b2)
  have z2 := b2.size
  have hcv := conv_own o2
  rw [rounds_succ]
  go_wp2_with fail
  go_ret
  exact ⟨rfl, ((b0.trans b1).trans b2)⟩


set_option maxRecDepth 100000 in
set_option maxHeartbeats 1000000 in
theorem rnum_3 (n : Int) (h0 : 65536 ≤ n) (h1 : n < 16777216) (w : World) :
    Calls Tryz.prog 89 #[.int .u64 n] w fun e w' => e = .returned (.string (strOfNums [250, n / 65536, n / 256 % 256, n % 256])) ∧ Below w.heap.size w w' := by
  have hn : ¬ n ≤ 247 := by omega
  go_enter Tryz.func89, Tryz.ntmps89
  go_wp2
  go_rounds 9
  have o0 := Bytes.lit w w.heap.size (Nat.le_refl _) [250] (by decide)
  have b0 := (Below.refl w.heap.size w).alloc (Nat.le_refl _) (.cells #[.int .u8 250] 5)
  simp only [List.map_cons, List.map_nil, List.length_cons, List.length_nil, Nat.zero_add] at o0
  refine wp_loop_rounds 10 ?_
  generalize w.alloc (.cells #[.int .u8 250] 5) = w0 at *
  have z0 := b0.size
  rw [rounds_succ]
  go_wp2_with (at_builtin; refine append_byte _ rfl _ _ rfl w.heap.size _ _ rfl o0 _ rfl (by simp) (by omega) ?_; intro v1 w1 o1 b1)
  have z1 := b1.size
  rw [rounds_succ]
  go_wp2_with (at_builtin; refine append_byte _ rfl _ _ rfl w.heap.size _ _ rfl o1 _ rfl (by simp) (by omega) ?_; intro v2 w2 o2 b2)
  have z2 := b2.size
  rw [rounds_succ]
  go_wp2_with (at_builtin; refine append_byte _ rfl _ _ rfl w.heap.size _ _ rfl o2 _ rfl (by simp) (by omega) ?_; intro v3 w3 o3 b3)
  have z3 := b3.size
  have hcv := conv_own o3
  rw [rounds_succ]
  go_wp2_with fail
  go_ret
  exact ⟨rfl, (((b0.trans b1).trans b2).trans b3)⟩


set_option maxRecDepth 100000 in
set_option maxHeartbeats 1000000 in
theorem rnum_4 (n : Int) (h0 : 16777216 ≤ n) (h1 : n < 4294967296) (w : World) :
    Calls Tryz.prog 89 #[.int .u64 n] w fun e w' => e = .returned (.string (strOfNums [251, n / 16777216, n / 65536 % 256, n / 256 % 256, n % 256])) ∧ Below w.heap.size w w' := by
  have hn : ¬ n ≤ 247 := by omega
  go_enter Tryz.func89, Tryz.ntmps89
  go_wp2
  go_rounds 9
  have o0 := Bytes.lit w w.heap.size (Nat.le_refl _) [251] (by decide)
  have b0 := (Below.refl w.heap.size w).alloc (Nat.le_refl _) (.cells #[.int .u8 251] 5)
  simp only [List.map_cons, List.map_nil, List.length_cons, List.length_nil, Nat.zero_add] at o0
  refine wp_loop_rounds 10 ?_
  generalize w.alloc (.cells #[.int .u8 251] 5) = w0 at *
  have z0 := b0.size
  rw [rounds_succ]
  go_wp2_with (at_builtin; refine append_byte _ rfl _ _ rfl w.heap.size _ _ rfl o0 _ rfl (by simp) (by omega) ?_; intro v1 w1 o1 b1)
  have z1 := b1.size
  rw [rounds_succ]
  go_wp2_with (at_builtin; refine append_byte _ rfl _ _ rfl w.heap.size _ _ rfl o1 _ rfl (by simp) (by omega) ?_; intro v2 w2 o2 b2)
  have z2 := b2.size
  rw [rounds_succ]
  go_wp2_with (at_builtin; refine append_byte _ rfl _ _ rfl w.heap.size _ _ rfl o2 _ rfl (by simp) (by omega) ?_; intro v3 w3 o3 b3)
  have z3 := b3.size
  rw [rounds_succ]
  go_wp2_with (at_builtin; refine append_byte _ rfl _ _ rfl w.heap.size _ _ rfl o3 _ rfl (by simp) (by omega) ?_; intro v4 w4 o4 b4)
  have z4 := b4.size
  have hcv := conv_own o4
  rw [rounds_succ]
  go_wp2_with fail
  go_ret
  exact ⟨rfl, ((((b0.trans b1).trans b2).trans b3).trans b4)⟩


set_option maxRecDepth 100000 in
set_option maxHeartbeats 1000000 in
theorem rnum_5 (n : Int) (h0 : 4294967296 ≤ n) (h1 : n < 1099511627776) (w : World) :
    Calls Tryz.prog 89 #[.int .u64 n] w fun e w' => e = .returned (.string (strOfNums [252, n / 4294967296, n / 16777216 % 256, n / 65536 % 256, n / 256 % 256, n % 256])) ∧ Below w.heap.size w w' := by
  have hn : ¬ n ≤ 247 := by omega
  go_enter Tryz.func89, Tryz.ntmps89
  go_wp2
  go_rounds 9
  have o0 := Bytes.lit w w.heap.size (Nat.le_refl _) [252] (by decide)
  have b0 := (Below.refl w.heap.size w).alloc (Nat.le_refl _) (.cells #[.int .u8 252] 5)
  simp only [List.map_cons, List.map_nil, List.length_cons, List.length_nil, Nat.zero_add] at o0
  refine wp_loop_rounds 10 ?_
  generalize w.alloc (.cells #[.int .u8 252] 5) = w0 at *
  have z0 := b0.size
  rw [rounds_succ]
  go_wp2_with (at_builtin; refine append_byte _ rfl _ _ rfl w.heap.size _ _ rfl o0 _ rfl (by simp) (by omega) ?_; intro v1 w1 o1 b1)
  have z1 := b1.size
  rw [rounds_succ]
  go_wp2_with (at_builtin; refine append_byte _ rfl _ _ rfl w.heap.size _ _ rfl o1 _ rfl (by simp) (by omega) ?_; intro v2 w2 o2 b2)
  have z2 := b2.size
  rw [rounds_succ]
  go_wp2_with (at_builtin; refine append_byte _ rfl _ _ rfl w.heap.size _ _ rfl o2 _ rfl (by simp) (by omega) ?_; intro v3 w3 o3 b3)
  have z3 := b3.size
  rw [rounds_succ]
  go_wp2_with (at_builtin; refine append_byte _ rfl _ _ rfl w.heap.size _ _ rfl o3 _ rfl (by simp) (by omega) ?_; intro v4 w4 o4 b4)
  have z4 := b4.size
  rw [rounds_succ]
  go_wp2_with (at_builtin; refine append_byte _ rfl _ _ rfl w.heap.size _ _ rfl o4 _ rfl (by simp) (by omega) ?_; intro v5 w5 o5 b5)
  have z5 := b5.size
  have hcv := conv_own o5
  rw [rounds_succ]
  go_wp2_with fail
  go_ret
  exact ⟨rfl, (((((b0.trans b1).trans b2).trans b3).trans b4).trans b5)⟩


set_option maxRecDepth 100000 in
set_option maxHeartbeats 1000000 in
theorem rnum_6 (n : Int) (h0 : 1099511627776 ≤ n) (h1 : n < 281474976710656) (w : World) :
    Calls Tryz.prog 89 #[.int .u64 n] w fun e w' => e = .returned (.string (strOfNums [253, n / 1099511627776, n / 4294967296 % 256, n / 16777216 % 256, n / 65536 % 256, n / 256 % 256, n % 256])) ∧ Below w.heap.size w w' := by
  have hn : ¬ n ≤ 247 := by omega
  go_enter Tryz.func89, Tryz.ntmps89
  go_wp2
  go_rounds 9
  have o0 := Bytes.lit w w.heap.size (Nat.le_refl _) [253] (by decide)
  have b0 := (Below.refl w.heap.size w).alloc (Nat.le_refl _) (.cells #[.int .u8 253] 5)
  simp only [List.map_cons, List.map_nil, List.length_cons, List.length_nil, Nat.zero_add] at o0
  refine wp_loop_rounds 10 ?_
  generalize w.alloc (.cells #[.int .u8 253] 5) = w0 at *
  have z0 := b0.size
  rw [rounds_succ]
  go_wp2_with (at_builtin; refine append_byte _ rfl _ _ rfl w.heap.size _ _ rfl o0 _ rfl (by simp) (by omega) ?_; intro v1 w1 o1 b1)
  have z1 := b1.size
  rw [rounds_succ]
  go_wp2_with (at_builtin; refine append_byte _ rfl _ _ rfl w.heap.size _ _ rfl o1 _ rfl (by simp) (by omega) ?_; intro v2 w2 o2 b2)
  have z2 := b2.size
  rw [rounds_succ]
  go_wp2_with (at_builtin; refine append_byte _ rfl _ _ rfl w.heap.size _ _ rfl o2 _ rfl (by simp) (by omega) ?_; intro v3 w3 o3 b3)
  have z3 := b3.size
  rw [rounds_succ]
  go_wp2_with (at_builtin; refine append_byte _ rfl _ _ rfl w.heap.size _ _ rfl o3 _ rfl (by simp) (by omega) ?_; intro v4 w4 o4 b4)
  have z4 := b4.size
  rw [rounds_succ]
  go_wp2_with (at_builtin; refine append_byte _ rfl _ _ rfl w.heap.size _ _ rfl o4 _ rfl (by simp) (by omega) ?_; intro v5 w5 o5 b5)
  have z5 := b5.size
  rw [rounds_succ]
  go_wp2_with (at_builtin; refine append_byte _ rfl _ _ rfl w.heap.size _ _ rfl o5 _ rfl (by simp) (by omega) ?_; intro v6 w6 o6 b6)
  have z6 := b6.size
  have hcv := conv_own o6
  rw [rounds_succ]
  go_wp2_with fail
  go_ret
  exact ⟨rfl, ((((((b0.trans b1).trans b2).trans b3).trans b4).trans b5).trans b6)⟩


set_option maxRecDepth 100000 in
set_option maxHeartbeats 1000000 in
theorem rnum_7 (n : Int) (h0 : 281474976710656 ≤ n) (h1 : n < 72057594037927936) (w : World) :
    Calls Tryz.prog 89 #[.int .u64 n] w fun e w' => e = .returned (.string (strOfNums [254, n / 281474976710656, n / 1099511627776 % 256, n / 4294967296 % 256, n / 16777216 % 256, n / 65536 % 256, n / 256 % 256, n % 256])) ∧ Below w.heap.size w w' := by
  have hn : ¬ n ≤ 247 := by omega
  go_enter Tryz.func89, Tryz.ntmps89
  go_wp2
  go_rounds 9
  have o0 := Bytes.lit w w.heap.size (Nat.le_refl _) [254] (by decide)
  have b0 := (Below.refl w.heap.size w).alloc (Nat.le_refl _) (.cells #[.int .u8 254] 5)
  simp only [List.map_cons, List.map_nil, List.length_cons, List.length_nil, Nat.zero_add] at o0
  refine wp_loop_rounds 10 ?_
  generalize w.alloc (.cells #[.int .u8 254] 5) = w0 at *
  have z0 := b0.size
  rw [rounds_succ]
  go_wp2_with (at_builtin; refine append_byte _ rfl _ _ rfl w.heap.size _ _ rfl o0 _ rfl (by simp) (by omega) ?_; intro v1 w1 o1 b1)
  have z1 := b1.size
  rw [rounds_succ]
  go_wp2_with (at_builtin; refine append_byte _ rfl _ _ rfl w.heap.size _ _ rfl o1 _ rfl (by simp) (by omega) ?_; intro v2 w2 o2 b2)
  have z2 := b2.size
  rw [rounds_succ]
  go_wp2_with (at_builtin; refine append_byte _ rfl _ _ rfl w.heap.size _ _ rfl o2 _ rfl (by simp) (by omega) ?_; intro v3 w3 o3 b3)
  have z3 := b3.size
  rw [rounds_succ]
  go_wp2_with (at_builtin; refine append_byte _ rfl _ _ rfl w.heap.size _ _ rfl o3 _ rfl (by simp) (by omega) ?_; intro v4 w4 o4 b4)
  have z4 := b4.size
  rw [rounds_succ]
  go_wp2_with (at_builtin; refine append_byte _ rfl _ _ rfl w.heap.size _ _ rfl o4 _ rfl (by simp) (by omega) ?_; intro v5 w5 o5 b5)
  have z5 := b5.size
  rw [rounds_succ]
  go_wp2_with (at_builtin; refine append_byte _ rfl _ _ rfl w.heap.size _ _ rfl o5 _ rfl (by simp) (by omega) ?_; intro v6 w6 o6 b6)
  have z6 := b6.size
  rw [rounds_succ]
  go_wp2_with (at_builtin; refine append_byte _ rfl _ _ rfl w.heap.size _ _ rfl o6 _ rfl (by simp) (by omega) ?_; intro v7 w7 o7 b7)
  have z7 := b7.size
  have hcv := conv_own o7
  rw [rounds_succ]
  go_wp2_with fail
  go_ret
  exact ⟨rfl, (((((((b0.trans b1).trans b2).trans b3).trans b4).trans b5).trans b6).trans b7)⟩


set_option maxRecDepth 100000 in
set_option maxHeartbeats 1000000 in
theorem rnum_8 (n : Int) (h0 : 72057594037927936 ≤ n) (h1 : n < 18446744073709551616) (w : World) :
    Calls Tryz.prog 89 #[.int .u64 n] w fun e w' => e = .returned (.string (strOfNums [255, n / 72057594037927936, n / 281474976710656 % 256, n / 1099511627776 % 256, n / 4294967296 % 256, n / 16777216 % 256, n / 65536 % 256, n / 256 % 256, n % 256])) ∧ Below w.heap.size w w' := by
  have hn : ¬ n ≤ 247 := by omega
  go_enter Tryz.func89, Tryz.ntmps89
  go_wp2
  go_rounds 9
  have o0 := Bytes.lit w w.heap.size (Nat.le_refl _) [255] (by decide)
  have b0 := (Below.refl w.heap.size w).alloc (Nat.le_refl _) (.cells #[.int .u8 255] 5)
  simp only [List.map_cons, List.map_nil, List.length_cons, List.length_nil, Nat.zero_add] at o0
  refine wp_loop_rounds 10 ?_
  generalize w.alloc (.cells #[.int .u8 255] 5) = w0 at *
  have z0 := b0.size
  rw [rounds_succ]
  go_wp2_with (at_builtin; refine append_byte _ rfl _ _ rfl w.heap.size _ _ rfl o0 _ rfl (by simp) (by omega) ?_; intro v1 w1 o1 b1)
  have z1 := b1.size
  rw [rounds_succ]
  go_wp2_with (at_builtin; refine append_byte _ rfl _ _ rfl w.heap.size _ _ rfl o1 _ rfl (by simp) (by omega) ?_; intro v2 w2 o2 b2)
  have z2 := b2.size
  rw [rounds_succ]
  go_wp2_with (at_builtin; refine append_byte _ rfl _ _ rfl w.heap.size _ _ rfl o2 _ rfl (by simp) (by omega) ?_; intro v3 w3 o3 b3)
  have z3 := b3.size
  rw [rounds_succ]
  go_wp2_with (at_builtin; refine append_byte _ rfl _ _ rfl w.heap.size _ _ rfl o3 _ rfl (by simp) (by omega) ?_; intro v4 w4 o4 b4)
  have z4 := b4.size
  rw [rounds_succ]
  go_wp2_with (at_builtin; refine append_byte _ rfl _ _ rfl w.heap.size _ _ rfl o4 _ rfl (by simp) (by omega) ?_; intro v5 w5 o5 b5)
  have z5 := b5.size
  rw [rounds_succ]
  go_wp2_with (at_builtin; refine append_byte _ rfl _ _ rfl w.heap.size _ _ rfl o5 _ rfl (by simp) (by omega) ?_; intro v6 w6 o6 b6)
  have z6 := b6.size
  rw [rounds_succ]
  go_wp2_with (at_builtin; refine append_byte _ rfl _ _ rfl w.heap.size _ _ rfl o6 _ rfl (by simp) (by omega) ?_; intro v7 w7 o7 b7)
  have z7 := b7.size
  rw [rounds_succ]
  go_wp2_with (at_builtin; refine append_byte _ rfl _ _ rfl w.heap.size _ _ rfl o7 _ rfl (by simp) (by omega) ?_; intro v8 w8 o8 b8)
  have z8 := b8.size
  have hcv := conv_own o8
  rw [rounds_succ]
  go_wp2_with fail
  go_ret
  exact ⟨rfl, ((((((((b0.trans b1).trans b2).trans b3).trans b4).trans b5).trans b6).trans b7).trans b8)⟩


theorem rnum_0 (n : Int) (h0 : 0 ≤ n) (h1 : n ≤ 247) (w : World) :
    Calls Tryz.prog 89 #[.int .u64 n] w fun e w' => e = .returned (.string (strOfNums [n])) ∧ Below w.heap.size w w' := by
  have hconv := fun W : World => conv_new W [.int .u8 n] [n] 0 rfl 1 rfl 5 1
  go_enter Tryz.func89, Tryz.ntmps89
  go_wp2
  go_ret
  exact ⟨rfl, (Below.refl _ _).alloc (Nat.le_refl _) _⟩
theorem ret_nums {a b : List Int} {e : Ending} (h : a = b) (he : e = .returned (.string (strOfNums a))) : e = .returned (.string (strOfNums b)) := by rw [he, h]
theorem rnum_any (n : Int) (h0 : 0 ≤ n) (h1 : n < 18446744073709551616) (w : World) :
    Calls Tryz.prog 89 #[.int .u64 n] w fun e w' => e = .returned (.string (numS n)) ∧ Below w.heap.size w w' := by
  unfold numS numI wid
  by_cases hn : n ≤ 247
  · rw [if_pos hn]; exact rnum_0 n h0 hn w
  rw [if_neg hn]
  by_cases g1 : n < 256
  · rw [if_pos g1]
    refine (rnum_1 n (by omega) (by omega) w).mono fun e w' ⟨he, hb⟩ => ⟨ret_nums ?_ he, hb⟩
    simp only [be, List.nil_append, List.cons.injEq, and_true]; omega
  by_cases g2 : n < 65536
  · rw [if_neg g1, if_pos g2]
    refine (rnum_2 n (by omega) (by omega) w).mono fun e w' ⟨he, hb⟩ => ⟨ret_nums ?_ he, hb⟩
    simp only [be, List.nil_append, List.cons_append, List.cons.injEq, and_true]; omega
  by_cases g3 : n < 16777216
  · rw [if_neg g1, if_neg g2, if_pos g3]
    refine (rnum_3 n (by omega) (by omega) w).mono fun e w' ⟨he, hb⟩ => ⟨ret_nums ?_ he, hb⟩
    simp only [be, List.nil_append, List.cons_append, List.cons.injEq, and_true]; omega
  by_cases g4 : n < 4294967296
  · rw [if_neg g1, if_neg g2, if_neg g3, if_pos g4]
    refine (rnum_4 n (by omega) (by omega) w).mono fun e w' ⟨he, hb⟩ => ⟨ret_nums ?_ he, hb⟩
    simp only [be, List.nil_append, List.cons_append, List.cons.injEq, and_true]; omega
  by_cases g5 : n < 1099511627776
  · rw [if_neg g1, if_neg g2, if_neg g3, if_neg g4, if_pos g5]
    refine (rnum_5 n (by omega) (by omega) w).mono fun e w' ⟨he, hb⟩ => ⟨ret_nums ?_ he, hb⟩
    simp only [be, List.nil_append, List.cons_append, List.cons.injEq, and_true]; omega
  by_cases g6 : n < 281474976710656
  · rw [if_neg g1, if_neg g2, if_neg g3, if_neg g4, if_neg g5, if_pos g6]
    refine (rnum_6 n (by omega) (by omega) w).mono fun e w' ⟨he, hb⟩ => ⟨ret_nums ?_ he, hb⟩
    simp only [be, List.nil_append, List.cons_append, List.cons.injEq, and_true]; omega
  by_cases g7 : n < 72057594037927936
  · rw [if_neg g1, if_neg g2, if_neg g3, if_neg g4, if_neg g5, if_neg g6, if_pos g7]
    refine (rnum_7 n (by omega) (by omega) w).mono fun e w' ⟨he, hb⟩ => ⟨ret_nums ?_ he, hb⟩
    simp only [be, List.nil_append, List.cons_append, List.cons.injEq, and_true]; omega
  rw [if_neg g1, if_neg g2, if_neg g3, if_neg g4, if_neg g5, if_neg g6, if_neg g7]
  refine (rnum_8 n (by omega) (by omega) w).mono fun e w' ⟨he, hb⟩ => ⟨ret_nums ?_ he, hb⟩
  simp only [be, List.nil_append, List.cons_append, List.cons.injEq, and_true]; omega

end Go.Proofs.YthnnenhpcceckaaGreat.Bt
/-
  THE WALKS OF bits.Int, bits.Text, bits.Flag and the document's own: over Num's contracts.
-/
namespace Go.Proofs.YthnnenhpcceckaaGreat.Bt
open Go.RowKit
theorem zig_lt {n : Int} (h0 : -9223372036854775808 ≤ n) (h1 : n ≤ 9223372036854775807) : ((Lib.zigzag n : Nat) : Int) < 18446744073709551616 := by
  have := Lib.zigzag_lt h0 h1; omega
theorem be_len (k : Nat) : ∀ n, (be k n).length = k := by
  induction k with
  | zero => intro n; rfl
  | succ k ih => intro n; simp [be, ih]
theorem wid_le (n : Int) : 1 ≤ wid n ∧ wid n ≤ 8 := by
  unfold wid
  repeat' split
  all_goals omega
theorem numS_size (n : Int) : (numS n).size ≤ 9 := by
  unfold numS numI
  rw [strOfNums_size]
  have := (wid_le n).2
  split
  · simp
  · rw [List.length_cons, be_len]; omega
def intS (n : Int) : ByteArray := numS ((Lib.zigzag n : Nat) : Int)
theorem int_any (n : Int) (h0 : -9223372036854775808 ≤ n) (h1 : n ≤ 9223372036854775807) (w : World) :
    Calls Tryz.prog 72 #[.int .i64 n] w fun e w' => e = .returned (.string (intS n)) ∧ Below w.heap.size w w' := by
  go_enter Tryz.func72, Tryz.ntmps72
  go_wp2_with fail
  refine (fold_any n h0 h1 _).mono ?_
  rintro e w1 ⟨rfl, rfl⟩
  go_wp2_with fail
  refine (num_any _ (Int.natCast_nonneg _) (zig_lt h0 h1) _).mono ?_
  rintro e w1 ⟨rfl, hb⟩
  go_wp2_with fail
  go_ret
  exact ⟨rfl, hb⟩
/-- the bytes of a text -/
def textS (s : ByteArray) : ByteArray := numS (s.size : Int) ++ s
def flagS (b : Bool) : ByteArray := if b then ⟨#[1]⟩ else ⟨#[0]⟩
end Go.Proofs.YthnnenhpcceckaaGreat.Bt
/-
  THE WALKS OF bits.join, least, unfold, number: what stands at the front of bytes.
-/
namespace Go.Proofs.YthnnenhpcceckaaGreat.Bt
open Go.RowKit
/-- the number whose bytes a list has, the highest first -/
def joinN (l : List UInt8) : Nat := l.foldl (fun n b => n * 256 + b.toNat) 0
theorem joinN_snoc (l : List UInt8) (b : UInt8) : joinN (l ++ [b]) = joinN l * 256 + b.toNat := by
  unfold joinN; rw [List.foldl_append]; rfl
theorem joinN_aux (l : List UInt8) : ∀ a : Nat, l.foldl (fun n b => n * 256 + b.toNat) a < (a + 1) * 256 ^ l.length := by
  induction l with
  | nil => intro a; simp
  | cons b l ih =>
    intro a
    rw [List.foldl_cons, List.length_cons, Nat.pow_succ]
    have hb := b.toNat_lt
    refine Nat.lt_of_lt_of_le (ih _) ?_
    rw [Nat.mul_comm (256 ^ l.length), ← Nat.mul_assoc]
    exact Nat.mul_le_mul_right _ (by omega)
theorem joinN_lt (l : List UInt8) : joinN l < 256 ^ l.length := by
  have := joinN_aux l 0
  simpa [joinN] using this
theorem take_snoc (s : ByteArray) (k : Nat) (h : k < s.size) : s.data.toList.take (k + 1) = s.data.toList.take k ++ [s[k]] := by
  rw [List.take_succ_eq_append_getElem (by simpa using h)]; rfl
theorem or_join (n : Nat) (b : UInt8) (h : n < 72057594037927936) : bits .or .u64 ((n : Int) * 256) (b.toNat : Int) = ((n * 256 + b.toNat : Nat) : Int) := by
  have hb := b.toNat_lt
  have e : ((n : Int) * 256) = ((n * 256 : Nat) : Int) := by omega
  rw [e, u64_or_nat _ _ (by omega) (by omega), nat_join 8 (n * 256) b.toNat (by omega) (by omega)]
theorem u64_byte (b : UInt8) : IntKind.u64.wrap (b.toNat : Int) = (b.toNat : Int) := by
  have := b.toNat_lt
  exact IntWalk.u64_in _ ⟨by omega, by omega⟩
theorem ret_u64 {a b : Int} (h : a = b) : Ending.returned (.int .u64 a) = .returned (.int .u64 b) := by rw [h]
set_option maxHeartbeats 400000 in
theorem join_any (s : ByteArray) (hs : s.size ≤ 8) (w : World) :
    Calls Tryz.prog 107 #[.string s] w fun e w' => e = .returned (.int .u64 (joinN s.data.toList)) ∧ w = w' := by
  go_enter Tryz.func107, Tryz.ntmps107
  go_wp2
  go_loop [3, 7] (fun n i => ∃ k : Nat, k ≤ s.size ∧ i = .int .i64 k ∧ n = .int .u64 (joinN (s.data.toList.take k) : Nat)) (fun _ i => s.size - (intOf i).toNat)
  case atStart => exact ⟨0, Nat.zero_le _, rfl, rfl⟩
  case round =>
    obtain ⟨k, hk, rfl, rfl⟩ := hrel
    have hl : (s.data.toList.take k).length ≤ k := List.length_take_le _ _
    by_cases hlt : k < s.size
    · have hsn := joinN_snoc (s.data.toList.take k) s[k]
      have hts := take_snoc s k hlt
      have hb0 := joinN_lt (s.data.toList.take k)
      have hb : joinN (s.data.toList.take k) < 72057594037927936 := Nat.lt_of_lt_of_le hb0 (Nat.le_trans (Nat.pow_le_pow_right (by decide) (show (s.data.toList.take k).length ≤ 7 by omega)) (by decide))
      have H := Lib.hid (hts ▸ hsn)
      have ho := or_join (joinN (s.data.toList.take k)) s[k] hb
      clear hsn hts hb0
      have hbi : (joinN (s.data.toList.take k) : Int) < 72057594037927936 := by omega
      have hw := u64_byte s[k]
      go_wp2
      go_round
      case rel => exact ⟨k + 1, by omega, by go_num, by rw [H.out]; go_num⟩
      case measure => simp [intOf]; omega
    · go_wp2
      go_ret
      exact ⟨ret_u64 (by rw [List.take_of_length_le (by simp; omega)]), rfl⟩

/-- the least number that has k bytes behind the first one -/
def leastN (k : Nat) : Nat := if k ≤ 1 then 248 else 256 ^ (k - 1)
theorem least_any (k : Int) (h1 : 1 ≤ k) (h2 : k ≤ 8) (w : World) :
    Calls Tryz.prog 108 #[.int .i64 k] w fun e w' => e = .returned (.int .u64 (leastN k.toNat)) ∧ w = w' := by
  have hk : k = 1 ∨ k = 2 ∨ k = 3 ∨ k = 4 ∨ k = 5 ∨ k = 6 ∨ k = 7 ∨ k = 8 := by omega
  rcases hk with rfl | rfl | rfl | rfl | rfl | rfl | rfl | rfl
  all_goals
    go_enter Tryz.func108, Tryz.ntmps108
    go_wp2
    go_ret
    exact ⟨rfl, rfl⟩
def unz (n : Nat) : Int := if n % 2 = 0 then (n / 2 : Nat) else -((n / 2 : Nat) : Int) - 1
theorem i64_xor_m1 (x : Nat) (hx : x < 9223372036854775808) : bits .xor .i64 (x : Int) (-1) = -(x : Int) - 1 := by
  show IntKind.i64.wrap ((BitVec.ofInt 64 (x : Int) ^^^ BitVec.ofInt 64 (-1)).toNat : Int) = _
  rw [BitVec.xor_comm]
  exact Lib.i64_not x hx
theorem i64_xor_0 (x : Nat) (hx : x < 9223372036854775808) : bits .xor .i64 (x : Int) 0 = (x : Int) := by
  show IntKind.i64.wrap ((BitVec.ofInt 64 (x : Int) ^^^ BitVec.ofInt 64 0).toNat : Int) = _
  have h2 : (BitVec.ofInt 64 (x : Int)).toNat = x := by
    rw [BitVec.ofInt_natCast, BitVec.toNat_ofNat]; exact Nat.mod_eq_of_lt (by omega)
  rw [BitVec.toNat_xor, h2, show (BitVec.ofInt 64 0).toNat = 0 from by decide, Nat.xor_zero, IntKind.wrap_i64]
  omega
theorem ret_i64 {a b : Int} (h : a = b) : Ending.returned (.int .i64 a) = .returned (.int .i64 b) := by rw [h]
theorem unfold_any (n : Nat) (h1 : n < 18446744073709551616) (w : World) :
    Calls Tryz.prog 109 #[.int .u64 n] w fun e w' => e = .returned (.int .i64 (unz n)) ∧ w = w' := by
  have ha := Lib.u64_and1 (n : Int) (by omega) (by omega)
  by_cases hn : n % 2 = 0
  · have hn2 : (n : Int) % 2 = 0 := by omega
    go_enter Tryz.func109, Tryz.ntmps109
    go_wp2
    go_ret
    exact ⟨ret_i64 (by unfold unz; rw [if_pos hn]; exact i64_xor_0 (n / 2) (by omega)), rfl⟩
  · have hn2 : (n : Int) % 2 = 1 := by omega
    go_enter Tryz.func109, Tryz.ntmps109
    go_wp2
    go_ret
    exact ⟨ret_i64 (by unfold unz; rw [if_neg hn]; exact i64_xor_m1 (n / 2) (by omega)), rfl⟩

def rdNum : List UInt8 → Nat × Nat × Int
  | [] => (0, 0, 5)
  | b :: t => if b.toNat ≤ 247 then (b.toNat, 1, 0) else if t.length < b.toNat - 247 then (0, 0, 5) else
      if joinN (t.take (b.toNat - 247)) < leastN (b.toNat - 247) then (0, 0, 3) else (joinN (t.take (b.toNat - 247)), b.toNat - 247 + 1, 0)
theorem head_drop (s : ByteArray) (h : 0 < s.size) : s.data.toList = s[0] :: s.data.toList.drop 1 := by
  have hl : 0 < s.data.toList.length := by simpa using h
  exact List.drop_eq_getElem_cons (l := s.data.toList) (i := 0) hl
theorem ret_num {a b c d e : Int} (h : a = c) (h' : b = d) : Ending.returned (.tuple #[.int .u64 a, .int .i64 b, .int .i64 e]) = .returned (.tuple #[.int .u64 c, .int .i64 d, .int .i64 e]) := by rw [h, h']
set_option maxRecDepth 10000 in
set_option maxHeartbeats 400000 in
theorem number_any (s : ByteArray) (hs : s.size ≤ 9223372036854775807) (w : World) :
    Calls Tryz.prog 85 #[.string s] w fun e w' => e = .returned (.tuple #[.int .u64 (rdNum s.data.toList).1, .int .i64 (rdNum s.data.toList).2.1, .int .i64 (rdNum s.data.toList).2.2]) ∧ w = w' := by
  by_cases h0 : s.size = 0
  · have e0 : s = ⟨#[]⟩ := by
      apply ByteArray.ext
      exact Array.eq_empty_of_size_eq_zero h0
    subst e0
    go_enter Tryz.func85, Tryz.ntmps85
    go_wp2_with fail
    go_ret3
    exact ⟨rfl, rfl⟩
  have h1 : 0 < s.size := by omega
  have he := head_drop s h1
  have hne : s.toList.isEmpty = false := by
    rw [Lib.toList_data, he]; rfl
  have hb := s[0].toNat_lt
  have hbi : (s[0].toNat : Int) ≤ 255 := by omega
  have He := Lib.hid he
  clear he
  by_cases h2 : s[0].toNat ≤ 247
  · go_enter Tryz.func85, Tryz.ntmps85
    go_wp2_with fail
    go_ret3
    refine ⟨?_, rfl⟩
    rw [He.out]; simp only [rdNum, if_pos h2]; rfl
  by_cases h3 : s.size < s[0].toNat - 247 + 1
  · go_enter Tryz.func85, Tryz.ntmps85
    go_wp2_with fail
    go_ret3
    refine ⟨?_, rfl⟩
    rw [He.out]; simp only [rdNum, if_neg h2]; rw [if_pos (by simp; omega)]; rfl
  · go_enter Tryz.func85, Tryz.ntmps85
    go_wp2_with fail
    refine (join_any _ (by simp; omega) _).mono ?_
    rintro e w1 ⟨rfl, rfl⟩
    go_wp2_with fail
    refine (least_any _ (by omega) (by omega) _).mono ?_
    rintro e w1 ⟨rfl, rfl⟩
    generalize hJ : joinN (List.take (1 + s[0].toNat - 247 - 1) s.data.toList.tail) = J at *
    generalize hL : leastN (1 + (s[0].toNat : Int) - 247 - 1).toNat = L at *
    have HJ := Lib.hid hJ
    have HL := Lib.hid hL
    clear hJ hL
    have eJ : joinN ((s.data.toList.drop 1).take (s[0].toNat - 247)) = J := by
      rw [List.drop_one, ← HJ.out, show 1 + s[0].toNat - 247 - 1 = s[0].toNat - 247 from by omega]
    have eL : leastN (s[0].toNat - 247) = L := by
      rw [← HL.out, show (1 + (s[0].toNat : Int) - 247 - 1).toNat = s[0].toNat - 247 from by omega]
    have EJ := Lib.hid eJ
    have EL := Lib.hid eL
    clear eJ eL
    by_cases hlt : J < L
    · have hlt' : (J : Int) < (L : Int) := by omega
      go_wp2_with fail
      go_ret3
      refine ⟨?_, rfl⟩
      rw [He.out]; simp only [rdNum, if_neg h2]
      rw [if_neg (by simp; omega), EJ.out, EL.out, if_pos hlt]; rfl
    · have hlt' : ¬ (J : Int) < (L : Int) := by omega
      go_wp2_with fail
      go_ret3
      refine ⟨?_, rfl⟩
      rw [He.out]; simp only [rdNum, if_neg h2]
      rw [if_neg (by simp; omega), EJ.out, EL.out, if_neg hlt]
      refine ret_num rfl ?_
      show (1 + (s[0].toNat : Int) - 247) = ((s[0].toNat - 247 + 1 : Nat) : Int)
      omega
end Go.Proofs.YthnnenhpcceckaaGreat.Bt
/-
  FILES AS A LIST OF NAMES AND BYTES; the map in memory that holds them.
-/
namespace Go.Proofs.YthnnenhpcceckaaGreat
open Go.RowKit
open Go.Maps (Keyed)
/-! ### plain files -/
abbrev Nm := ByteArray
abbrev Fm := List (Nm × List UInt8)
def get (fs : Fm) (s : Nm) : Option (List UInt8) := (fs.find? fun p => decide (p.1 = s)).map (·.2)
def gl (fs : Fm) (s : Nm) : List UInt8 := (get fs s).getD []
def del (fs : Fm) (s : Nm) : Fm := fs.filter fun p => decide (p.1 ≠ s)
def put (fs : Fm) (s : Nm) (l : List UInt8) : Fm := (s, l) :: del fs s
def sz (fs : Fm) : Nat := (fs.map fun p => p.2.length).sum
def Uniq (fs : Fm) : Prop := fs.Pairwise fun p q => p.1 ≠ q.1
theorem get_put_same (fs : Fm) (s : Nm) (l : List UInt8) : get (put fs s l) s = some l := by
  unfold get put
  rw [List.find?_cons]
  simp
theorem get_del_same (fs : Fm) (s : Nm) : get (del fs s) s = none := by
  unfold get del
  rw [List.find?_eq_none.2]
  · rfl
  · intro x hx
    have := (List.mem_filter.1 hx).2
    simpa using this
theorem get_del_other {fs : Fm} {s t : Nm} (h : t ≠ s) : get (del fs s) t = get fs t := by
  unfold get del
  induction fs with
  | nil => rfl
  | cons p fs ih =>
    rw [List.filter_cons]
    by_cases hp : p.1 = s
    · have e1 : decide (p.1 ≠ s) = false := by simp [hp]
      have e2 : decide (p.1 = t) = false := by rw [hp]; exact decide_eq_false (fun e => h e.symm)
      rw [e1, List.find?_cons, e2]
      exact ih
    · have e1 : decide (p.1 ≠ s) = true := by simpa using hp
      rw [e1]
      simp only [if_true]
      rw [List.find?_cons, List.find?_cons]
      split
      · rfl
      · exact ih
theorem get_put_other {fs : Fm} {s t : Nm} (l : List UInt8) (h : t ≠ s) : get (put fs s l) t = get fs t := by
  have e2 : decide ((s, l).1 = t) = false := decide_eq_false (fun e => h e.symm)
  have : get (put fs s l) t = get (del fs s) t := by
    unfold get put
    rw [List.find?_cons, e2]
  rw [this, get_del_other h]
theorem gl_put_same (fs : Fm) (s : Nm) (l : List UInt8) : gl (put fs s l) s = l := by unfold gl; rw [get_put_same]; rfl
theorem gl_put_other {fs : Fm} {s t : Nm} (l : List UInt8) (h : t ≠ s) : gl (put fs s l) t = gl fs t := by unfold gl; rw [get_put_other l h]
theorem gl_del_same (fs : Fm) (s : Nm) : gl (del fs s) s = [] := by unfold gl; rw [get_del_same]; rfl
theorem gl_del_other {fs : Fm} {s t : Nm} (h : t ≠ s) : gl (del fs s) t = gl fs t := by unfold gl; rw [get_del_other h]
theorem uniq_del {fs : Fm} (h : Uniq fs) (s : Nm) : Uniq (del fs s) := List.Pairwise.filter _ h
theorem uniq_put {fs : Fm} (h : Uniq fs) (s : Nm) (l : List UInt8) : Uniq (put fs s l) := by
  refine List.Pairwise.cons (fun p hp => ?_) (uniq_del h s)
  have := of_decide_eq_true (List.mem_filter.1 hp).2
  exact fun e => this e.symm
theorem sz_del {fs : Fm} (h : Uniq fs) (s : Nm) : sz (del fs s) + (gl fs s).length = sz fs := by
  unfold sz gl get del
  induction fs with
  | nil => rfl
  | cons p fs ih =>
    have ih := ih (List.Pairwise.of_cons h)
    rw [List.filter_cons, List.find?_cons]
    by_cases hp : p.1 = s
    · have e1 : decide (p.1 ≠ s) = false := by simp [hp]
      have e2 : decide (p.1 = s) = true := by simp [hp]
      have e3 : fs.filter (fun q => decide (q.1 ≠ s)) = fs := List.filter_eq_self.2 (fun q hq => by
        have := List.rel_of_pairwise_cons h hq
        rw [hp] at this
        exact decide_eq_true (fun e => this e.symm))
      rw [e1, e2]
      simp only [Bool.false_eq_true, if_false]
      rw [e3]
      simp
      omega
    · have e1 : decide (p.1 ≠ s) = true := by simpa using hp
      have e2 : decide (p.1 = s) = false := by simpa using hp
      rw [e1, e2]
      simp only [if_true, List.map_cons, List.sum_cons]
      omega
theorem sz_put {fs : Fm} (h : Uniq fs) (s : Nm) (l : List UInt8) : sz (put fs s l) + (gl fs s).length = sz fs + l.length := by
  have := sz_del h s
  unfold put
  have e : sz ((s, l) :: del fs s) = l.length + sz (del fs s) := by simp [sz]
  rw [e]
  omega
theorem len_put (fs : Fm) (s : Nm) (l : List UInt8) : (put fs s l).length ≤ fs.length + 1 := by
  unfold put del
  have := List.length_filter_le (fun p : Nm × List UInt8 => decide (p.1 ≠ s)) fs
  simp only [List.length_cons]
  omega
theorem len_del (fs : Fm) (s : Nm) : (del fs s).length ≤ fs.length := List.length_filter_le _ _
/-! ### the map in memory -/
def bcells (l : List UInt8) : List Value := l.map fun b => .int .u8 (b.toNat : Int)
theorem bcells_len (l : List UInt8) : (bcells l).length = l.length := by simp [bcells]
def Rv (v : Value) : Option (DataW Value × List MemPlace) := some (.held v, [])
def key (s : Nm) : Lit := .string s.data.toList
def nilS : Value := .slice none 0 0
theorem law9 : Keyed Tryz.prog 9 := Maps.string_keyed Tryz.underlying9
theorem key_inj {s t : Nm} (h : key s = key t) : s = t := by
  unfold key at h
  simp only [Lit.string.injEq] at h
  have := Array.toList_inj.1 h
  cases s; cases t; simp_all
theorem keyOf_key {s : Nm} (h : s.size ≤ maxLen) : keyOf Tryz.prog 9 (.string s) = some (key s) := by
  simp [keyOf, mapKey, Tryz.underlying9, key, h]
/-- THE MAP IN BLOCK M HOLDS THE FILES fs; the slice of the file s is V s (nil, where there is none); no two lie in one block -/
structure Fls (w : World) (B M n : Nat) (fs : Fm) (V : Nm → Value) : Prop where
  map : ∃ D, w.ownsMap Tryz.prog 9 Rv M n D ∧ (∀ s, Maps.has D (key s) = (get fs s).isSome) ∧ ∀ s, D.atKey (key s) (.held nilS) = .held (V s)
  own : ∀ s, w.ownsRow B 5 1 (V s) (gl fs s).length (bcells (gl fs s))
  apart : ∀ s t, s ≠ t → (V s).ownBlock = none ∨ (V s).ownBlock ≠ (V t).ownBlock
  off : B ≤ M ∧ ∀ s, (V s).ownBlock ≠ some M
/-- the blocks that they lie in -/
def Foot (M : Nat) (V : Nm → Value) (q : Nat) : Prop := q = M ∨ ∃ s, (V s).ownBlock = some q
theorem Fls.lt {w : World} {B M n : Nat} {fs : Fm} {V : Nm → Value} (h : Fls w B M n fs V) {q : Nat} (hq : Foot M V q) : B ≤ q ∧ q < w.heap.size := by
  rcases hq with rfl | ⟨s, e⟩
  · obtain ⟨D, hD, _⟩ := h.map
    exact ⟨h.off.1, hD.lt⟩
  · exact World.ownsRow.lt (h.own s) q e
/-- what is elsewhere may turn -/
theorem Fls.kept {w w' : World} {B M n : Nat} {fs : Fm} {V : Nm → Value} (h : Fls w B M n fs V) (_hs : w.heap.size ≤ w'.heap.size) (hb : ∀ q, q < w.heap.size → Foot M V q → w'.heap[q]? = w.heap[q]?) : Fls w' B M n fs V := by
  obtain ⟨⟨D, hD, h1, h2⟩, h3, h4, h5⟩ := h
  refine ⟨⟨D, ?_, h1, h2⟩, fun s => ?_, h4, h5⟩
  · have hl := hD.lt
    obtain ⟨es, clock, hh, rest⟩ := hD
    exact ⟨es, clock, (hb M hl (.inl rfl)).trans hh, rest⟩
  · have hr := h3 s
    refine ⟨hr.1, ?_⟩
    rcases hr.2 with hn | ⟨g, cap, cur, e, hB, hh, rest⟩
    · exact .inl hn
    · refine .inr ⟨g, cap, cur, e, hB, ?_, rest⟩
      rw [hb g (Array.getElem?_eq_some_iff.1 hh).1 (.inr ⟨s, by rw [e]; rfl⟩)]
      exact hh
theorem Fls.below {w w' : World} {B M n : Nat} {fs : Fm} {V : Nm → Value} (h : Fls w B M n fs V) (hb : Below w.heap.size w w') : Fls w' B M n fs V := h.kept hb.size (fun q hq _ => hb.block q hq)
theorem zero55 (w : World) : (zeroValue 55).run Tryz.prog w = .ok nilS w := by kernel_rfl
theorem Fls.look {w : World} {B M n : Nat} {fs : Fm} {V : Nm → Value} (h : Fls w B M n fs V) {s : Nm} (hs : s.size ≤ maxLen) : (Instr.lookup 48 (.map (some M)) (.string s) false).run Tryz.prog w = .ok (V s) w := by
  obtain ⟨⟨D, hD, _, h2⟩, _⟩ := h
  obtain ⟨v, ps, hrun, hv⟩ := hD.lookup law9 Tryz.underlying48 (zero55 w) (zd := .held nilS) (zp := []) rfl (keyOf_key hs)
  rw [h2] at hv
  unfold Rv at hv
  simp only [Option.some.injEq, Prod.mk.injEq, DataW.held.injEq] at hv
  rw [hrun, hv.1]
theorem Fls.look_ok {w : World} {B M n : Nat} {fs : Fm} {V : Nm → Value} (h : Fls w B M n fs V) {s : Nm} (hs : s.size ≤ maxLen) : (Instr.lookup 48 (.map (some M)) (.string s) true).run Tryz.prog w = .ok (.tuple #[V s, .bool (get fs s).isSome]) w := by
  obtain ⟨⟨D, hD, h1, h2⟩, _⟩ := h
  obtain ⟨v, ps, hrun, hv⟩ := hD.look_ok law9 Tryz.underlying48 (zero55 w) (zd := .held nilS) (zp := []) rfl (keyOf_key hs)
  rw [h2] at hv
  unfold Rv at hv
  simp only [Option.some.injEq, Prod.mk.injEq, DataW.held.injEq] at hv
  rw [hrun, hv.1, h1]
/-- the same but for one name -/
def upd (V : Nm → Value) (s : Nm) (v : Value) : Nm → Value := fun t => if t = s then v else V t
theorem upd_same (V : Nm → Value) (s : Nm) (v : Value) : upd V s v s = v := by simp [upd]
theorem upd_other (V : Nm → Value) {s t : Nm} (v : Value) (h : t ≠ s) : upd V s v t = V t := by simp [upd, h]
theorem isKey (s : Nm) : WideAt.IsKeyLit (key s) := by unfold key; trivial
theorem key_ne {s t : Nm} (h : t ≠ s) : key t ≠ key s := fun e => h (key_inj e)
/-- 'm[s] = v' -/
theorem Fls.store {w : World} {B M n : Nat} {fs : Fm} {V : Nm → Value} (h : Fls w B M n fs V) {s : Nm} (hs : s.size ≤ maxLen) (hn : n < maxLen) {v : Value} {l : List UInt8} (ho : w.ownsRow B 5 1 v l.length (bcells l))
    (hv : ∀ t, t ≠ s → v.ownBlock = none ∨ v.ownBlock ≠ (V t).ownBlock) (hM : v.ownBlock ≠ some M) :
    ∃ w', (Instr.mapUpdate 48 (.map (some M)) (.string s) v).run Tryz.prog w = .ok () w' ∧ Fls w' B M (n + 1) (put fs s l) (upd V s v) ∧ w.grownBy w' (some M) ∧ w'.heap.size = w.heap.size := by
  obtain ⟨⟨D, hD, h1, h2⟩, h3, h4, h5⟩ := h
  obtain ⟨w', hrun, hD', ht⟩ := hD.store law9 Tryz.underlying48 hn (keyOf_key hs) (d := .held v) (ps := []) rfl
  obtain ⟨es, clock, es', clock', hb, hw'⟩ := ht
  have hg : w.grownBy w' (some M) := by
    rw [hw']
    exact ⟨rfl, rfl, rfl, by simp [ChangeMaps.setBlock], fun i _ hi => ChangeMaps.heap_setBlock_other hb _ (fun e => hi (by rw [e]))⟩
  have hz : w'.heap.size = w.heap.size := by rw [hw']; simp [ChangeMaps.setBlock]
  have hm : Maps.IsMap D := by
    obtain ⟨es, _, _, _, _, rfl⟩ := hD
    exact ⟨_, rfl⟩
  refine ⟨w', hrun, ⟨⟨_, hD', fun t => ?_, fun t => ?_⟩, fun t => ?_, fun t u htu => ?_, h5.1, fun t => ?_⟩, hg, hz⟩
  · by_cases e : t = s
    · subst e
      rw [Maps.has_put_same hm (isKey t), get_put_same]; rfl
    · rw [Maps.has_put_other (key_ne e), get_put_other l e, h1]
  · by_cases e : t = s
    · subst e
      rw [Maps.atKey_put_same hm (isKey t), upd_same]
    · rw [Maps.atKey_put_other (key_ne e), upd_other V v e, h2]
  · by_cases e : t = s
    · subst e
      rw [upd_same, gl_put_same]
      exact World.ownsRow.kept ho hg (.inr hM)
    · rw [upd_other V v e, gl_put_other l e]
      exact World.ownsRow.kept (h3 t) hg (.inr (h5.2 t))
  · by_cases e : t = s
    · subst e
      rw [upd_same, upd_other V v htu.symm]
      exact hv u htu.symm
    · by_cases e2 : u = s
      · subst e2
        rw [upd_same, upd_other V v e]
        rcases hv t e with h | h
        · rw [h]
          rcases hq : (V t).ownBlock with _ | q
          · exact .inl rfl
          · exact .inr (by simp)
        · exact .inr (fun h' => h h'.symm)
      · rw [upd_other V v e, upd_other V v e2]
        exact h4 t u htu
  · by_cases e : t = s
    · subst e; rw [upd_same]; exact hM
    · rw [upd_other V v e]; exact h5.2 t
/-- 'delete(m, s)' -/
theorem Fls.strike {w : World} {B M n : Nat} {fs : Fm} {V : Nm → Value} (h : Fls w B M n fs V) {s : Nm} (hs : s.size ≤ maxLen) (ty : TypeId) :
    ∃ w', (Builtin.delete_ #[48, 9] ty #[.map (some M), .string s]).run Tryz.prog w = .ok (.tuple #[]) w' ∧ Fls w' B M n (del fs s) (upd V s nilS) ∧ w.grownBy w' (some M) ∧ w'.heap.size = w.heap.size := by
  obtain ⟨⟨D, hD, h1, h2⟩, h3, h4, h5⟩ := h
  obtain ⟨w', hrun, hD', ht⟩ := hD.drop law9 Tryz.underlying48 (keyOf_key hs) ty
  obtain ⟨es, clock, es', clock', hb, hw'⟩ := ht
  have hg : w.grownBy w' (some M) := by
    rw [hw']
    exact ⟨rfl, rfl, rfl, by simp [ChangeMaps.setBlock], fun i _ hi => ChangeMaps.heap_setBlock_other hb _ (fun e => hi (by rw [e]))⟩
  have hz : w'.heap.size = w.heap.size := by rw [hw']; simp [ChangeMaps.setBlock]
  refine ⟨w', hrun, ⟨⟨_, hD', fun t => ?_, fun t => ?_⟩, fun t => ?_, fun t u htu => ?_, h5.1, fun t => ?_⟩, hg, hz⟩
  · by_cases e : t = s
    · subst e
      rw [Maps.has_del_same, get_del_same]; rfl
    · rw [Maps.has_del_other (key_ne e), get_del_other e, h1]
  · by_cases e : t = s
    · subst e
      rw [Maps.atKey_del_same, upd_same]
    · rw [Maps.atKey_del_other (key_ne e), upd_other V nilS e, h2]
  · by_cases e : t = s
    · subst e
      rw [upd_same, gl_del_same]
      exact World.ownsRow_nil _ _ _ _
    · rw [upd_other V nilS e, gl_del_other e]
      exact World.ownsRow.kept (h3 t) hg (.inr (h5.2 t))
  · by_cases e : t = s
    · subst e
      rw [upd_same]
      exact .inl rfl
    · by_cases e2 : u = s
      · subst e2
        rw [upd_same, upd_other V nilS e]
        rcases hq : (V t).ownBlock with _ | q
        · exact .inl rfl
        · exact .inr (by simp [nilS, Value.ownBlock])
      · rw [upd_other V nilS e, upd_other V nilS e2]
        exact h4 t u htu
  · by_cases e : t = s
    · subst e; rw [upd_same]; simp [nilS, Value.ownBlock]
    · rw [upd_other V nilS e]; exact h5.2 t
/-- 'map[string][]byte{}' -/
theorem Fls.made (w : World) {B : Nat} (hB : B ≤ w.heap.size) : Fls (w.alloc (.map #[] 0)) B w.heap.size 0 [] (fun _ => nilS) :=
  ⟨⟨.map [], World.ownsMap_made _ _ _ _, fun _ => rfl, fun _ => rfl⟩, fun _ => World.ownsRow_nil _ _ _ _, fun _ _ _ => .inl rfl, hB, fun _ => by simp [nilS, Value.ownBlock]⟩
theorem Fls.mono {w : World} {B M n n' : Nat} {fs : Fm} {V : Nm → Value} (h : Fls w B M n fs V) (hn : n ≤ n') : Fls w B M n' fs V := by
  obtain ⟨⟨D, hD, h1, h2⟩, h3, h4, h5⟩ := h
  exact ⟨⟨D, hD.mono hn, h1, h2⟩, h3, h4, h5⟩
end Go.Proofs.YthnnenhpcceckaaGreat
/-
  FILES: set, drop.
-/
namespace Go.Proofs.YthnnenhpcceckaaGreat
open Go.RowKit
/-- nothing old has turned but where P says -/
structure Fr (w w' : World) (P : Nat → Prop) : Prop where
  os : w'.os = w.os
  tape : w'.tape = w.tape
  output : w'.output = w.output
  size : w.heap.size ≤ w'.heap.size
  block : ∀ q, q < w.heap.size → ¬ P q → w'.heap[q]? = w.heap[q]?
theorem Fr.refl (w : World) (P : Nat → Prop) : Fr w w P := ⟨rfl, rfl, rfl, Nat.le_refl _, fun _ _ _ => rfl⟩
theorem Fr.trans {a b c : World} {P Q R : Nat → Prop} (h : Fr a b P) (k : Fr b c Q) (hP : ∀ q, q < a.heap.size → P q → R q) (hQ : ∀ q, q < a.heap.size → Q q → R q) : Fr a c R :=
  ⟨k.os.trans h.os, k.tape.trans h.tape, k.output.trans h.output, Nat.le_trans h.size k.size, fun q hq hR => (k.block q (Nat.lt_of_lt_of_le hq h.size) (fun hh => hR (hQ q hq hh))).trans (h.block q hq (fun hh => hR (hP q hq hh)))⟩
theorem Fr.of_grown {w w' : World} {r : Option Nat} (h : w.grownBy w' r) : Fr w w' (fun q => some q = r) := ⟨h.os, h.tape, h.output, h.size, fun q hq hne => h.block q hq hne⟩
theorem Fr.of_below {w w' : World} (h : Below w.heap.size w w') (P : Nat → Prop) : Fr w w' P := ⟨h.os, h.tape, h.output, h.size, fun q hq _ => h.block q hq⟩
theorem Fr.mono {w w' : World} {P Q : Nat → Prop} (h : Fr w w' P) (hPQ : ∀ q, q < w.heap.size → P q → Q q) : Fr w w' Q := ⟨h.os, h.tape, h.output, h.size, fun q hq hn => h.block q hq (fun hh => hn (hPQ q hq hh))⟩
theorem Fr.below {w w' : World} {B : Nat} {P : Nat → Prop} (h : Fr w w' P) (hP : ∀ q, P q → B ≤ q) (hB : B ≤ w.heap.size) : Below B w w' := ⟨h.os, h.tape, h.output, h.size, fun q hq => h.block q (Nat.lt_of_lt_of_le hq hB) (fun hh => by have := hP q hh; omega)⟩
/-- a block that is known whole -/
def Blk (w : World) (g : Nat) (t : TypeId) (cs : Array Value) : Prop := w.heap[g]? = some (.cells cs t (0, 0))
section
variable {w w' : World} {g : Nat} {t : TypeId} {cs : Array Value}
theorem Blk.lt (h : Blk w g t cs) : g < w.heap.size := (Array.getElem?_eq_some_iff.1 h).1
theorem Blk.cell (h : Blk w g t cs) (i : Nat) : w.cell? ⟨g, i, none⟩ = cs[i]? := cell_of_row w g i cs t (0, 0) h
theorem Blk.free (h : Blk w g t cs) (i : Nat) : w.frozen? ⟨g, i, none⟩ = false := by unfold Blk at h; simp [World.frozen?, h]
theorem Blk.new (w : World) (t : TypeId) (cs : Array Value) : Blk (w.alloc (.cells cs t)) w.heap.size t cs := heap_alloc_new w _
theorem Blk.set (h : Blk w g t cs) (i : Nat) (u : Value) : Blk (w.setCell ⟨g, i, none⟩ u) g t (cs.setIfInBounds i u) := by
  unfold Blk at h ⊢
  simp [World.setCell, Array.getElem?_modify, h]
theorem Blk.fr {P : Nat → Prop} (h : Blk w g t cs) (hf : Fr w w' P) (hP : ¬ P g) : Blk w' g t cs := (hf.block g h.lt hP).trans h
theorem Blk.below {B : Nat} (h : Blk w g t cs) (hb : Below B w w') (hg : g < B) : Blk w' g t cs := (hb.block g hg).trans h
end
theorem Fls.fr {w w' : World} {B M n : Nat} {fs : Fm} {V : Nm → Value} {P : Nat → Prop} (h : Fls w B M n fs V) (hf : Fr w w' P) (hP : ∀ q, Foot M V q → ¬ P q) : Fls w' B M n fs V :=
  h.kept hf.size (fun q hq hF => hf.block q hq (hP q hF))
theorem fr_set (w : World) (g i : Nat) (u : Value) : Fr w (w.setCell ⟨g, i, none⟩ u) (fun q => q = g) :=
  ⟨rfl, rfl, rfl, by simp [World.setCell], fun q _ hne => Below.heap_setCell _ _ _ _ hne⟩
theorem fr_drew (w : World) (P : Nat → Prop) : Fr w w.drew P := ⟨rfl, rfl, rfl, Nat.le_refl _, fun _ _ _ => rfl⟩
theorem own_form {w : World} {B : Nat} {v : Value} {n : Nat} {xs : List Value} (h : w.ownsRow B 5 1 v n xs) : ∃ a c, v = .slice a n c := by
  rcases h.2 with ⟨rfl, e⟩ | ⟨g, cap, cur, rfl, _⟩
  · exact ⟨none, 0, by rw [e]⟩
  · exact ⟨_, _, rfl⟩
theorem below_drewN {B : Nat} {a w : World} (h : Below B a w) (n : Nat) : Below B a (w.drewN n) := ⟨h.os, h.tape, h.output, h.size, h.block⟩
/-- what set and drop leave -/
def Setd (w : World) (B D M n T o : Nat) (cs : Array Value) (fs : Fm) (V : Nm → Value) (u : Int) (e : Ending) (w' : World) : Prop :=
  e = .returned (.tuple #[]) ∧ Fls w' B M n fs V ∧ Blk w' D T (cs.setIfInBounds (o + 1) (.int .i64 u)) ∧ Fr w w' (fun q => q = D ∨ q = M)
set_option maxHeartbeats 2000000 in
set_option maxRecDepth 100000 in
theorem set_any {w : World} {B D M n T o : Nat} {cs : Array Value} {fs : Fm} {V : Nm → Value} {s : Nm} {a : Option Addr} {l : List UInt8} {c : Nat} {u : Int} (h : Fls w B M n fs V) (hB : Blk w D T cs) (h0 : cs[o]? = some (.map (some M))) (h1 : cs[o + 1]? = some (.int .i64 u)) (hF : ¬ Foot M V D)
    (hs : s.size ≤ 9223372036854775807) (hn : n < 1000000) (hu0 : 0 ≤ u) (hu1 : u ≤ 4611686018427387904) (hl : l.length ≤ 4194304) (hg : (gl fs s).length ≤ 4194304) (hgu : ((gl fs s).length : Int) ≤ u) (ho : w.ownsRow B 5 1 (.slice a l.length c) l.length (bcells l))
    (hv : ∀ t, t ≠ s → (Value.slice a l.length c).ownBlock = none ∨ (Value.slice a l.length c).ownBlock ≠ (V t).ownBlock) (hM : (Value.slice a l.length c).ownBlock ≠ some M) (hvD : (Value.slice a l.length c).ownBlock ≠ some D) :
    Calls Tryz.prog 35 #[.pointer (some ⟨D, o, none⟩), .string s, .slice a l.length c] w (Setd w B D M (n + 1) T o cs (put fs s l) (upd V s (.slice a l.length c)) (u + (l.length - (gl fs s).length))) := by
  have hs' : s.size ≤ maxLen := by unfold maxLen; omega
  have hDM : D ≠ M := fun e => hF (.inl e)
  have c0 : w.cell? ⟨D, o, none⟩ = some (.map (some M)) := by rw [hB.cell]; exact h0
  have c1 : w.cell? ⟨D, o + 1, none⟩ = some (.int .i64 u) := by rw [hB.cell]; exact h1
  have f1 := hB.free (o + 1)
  obtain ⟨av, cv, hV⟩ := own_form (h.own s)
  have LK : (Instr.lookup 48 (.map (some M)) (.string s) false).run Tryz.prog w = .ok (.slice av (gl fs s).length cv) w := by rw [h.look hs', hV]
  have LD : (Instr.lookup 48 (.map (some M)) (.string s) false).run Tryz.prog w.drew = .ok (.slice av (gl fs s).length cv) w.drew := by
    have h2 : Fls w.drew B M n fs V := h.below (below_drewN (Below.refl _ _) 1)
    rw [h2.look hs', hV]
  obtain ⟨w2, hw2, h2, B2, F2, o2⟩ : ∃ w2, w2 = (w.setCell ⟨D, o + 1, none⟩ (.int .i64 (u + ((l.length : Int) - (gl fs s).length)))).drew ∧ Fls w2 B M n fs V ∧ Blk w2 D T (cs.setIfInBounds (o + 1) (.int .i64 (u + ((l.length : Int) - (gl fs s).length)))) ∧ Fr w w2 (fun q => q = D) ∧ w2.ownsRow B 5 1 (.slice a l.length c) l.length (bcells l) := by
    have F := (fr_set w D (o + 1) (.int .i64 (u + ((l.length : Int) - (gl fs s).length)))).trans (fr_drew _ (fun _ => False)) (fun _ _ h => h) (fun _ _ h => h.elim)
    refine ⟨_, rfl, h.fr F (fun q hq e => hF (e ▸ hq)), hB.set _ _, F, ?_⟩
    exact World.ownsRow.kept ho ⟨F.os, F.tape, F.output, F.size, fun q hq hne => F.block q hq (fun e => hne (by rw [e]))⟩ (.inr hvD)
  obtain ⟨w3, hrun, h3, g3, z3⟩ := h2.store hs' (by unfold maxLen; omega) o2 hv hM
  have B3 : Blk w3 D T (cs.setIfInBounds (o + 1) (.int .i64 (u + ((l.length : Int) - (gl fs s).length)))) := B2.fr (Fr.of_grown g3) (by simpa using hDM)
  have c3 : w2.cell? ⟨D, o, none⟩ = some (.map (some M)) := by rw [B2.cell]; rw [Array.getElem?_setIfInBounds_ne (by omega)]; exact h0
  have FIN := Lib.hid (show Setd w B D M (n + 1) T o cs (put fs s l) (upd V s (.slice a l.length c)) (u + (l.length - (gl fs s).length)) (.returned (.tuple #[])) w3 from
    ⟨rfl, h3, B3, F2.trans (Fr.of_grown g3) (fun q _ e => .inl e) (fun q _ e => .inr (by simpa using e))⟩)
  have W2 := Lib.hid hw2
  have hg2 : ((gl fs s).length : Int) ≤ 4194304 := by omega
  have hl2 : (l.length : Int) ≤ 4194304 := by omega
  clear h2 B2 F2 o2 h3 g3 z3 B3 hV ho hv hM hvD h hB h0 h1 hw2
  generalize (gl fs s).length = g at *
  generalize l.length = m at *
  go_enter Tryz.func35, Tryz.ntmps35
  go_wp2_with fail
  go_region
  rw [← W2.out]
  clear LK LD c0 c1 f1
  go_wp2_with fail
  go_end0
  exact FIN.out
set_option maxHeartbeats 2000000 in
set_option maxRecDepth 100000 in
theorem drop_any {w : World} {B D M n T o : Nat} {cs : Array Value} {fs : Fm} {V : Nm → Value} {s : Nm} {u : Int} (h : Fls w B M n fs V) (hB : Blk w D T cs) (h0 : cs[o]? = some (.map (some M))) (h1 : cs[o + 1]? = some (.int .i64 u)) (hF : ¬ Foot M V D)
    (hs : s.size ≤ 9223372036854775807) (hu0 : 0 ≤ u) (hu1 : u ≤ 4611686018427387904) (hg : (gl fs s).length ≤ 4194304) (hgu : ((gl fs s).length : Int) ≤ u) :
    Calls Tryz.prog 36 #[.pointer (some ⟨D, o, none⟩), .string s] w (Setd w B D M n T o cs (del fs s) (upd V s nilS) (u - (gl fs s).length)) := by
  have hs' : s.size ≤ maxLen := by unfold maxLen; omega
  have hDM : D ≠ M := fun e => hF (.inl e)
  have c0 : w.cell? ⟨D, o, none⟩ = some (.map (some M)) := by rw [hB.cell]; exact h0
  have c1 : w.cell? ⟨D, o + 1, none⟩ = some (.int .i64 u) := by rw [hB.cell]; exact h1
  have f1 := hB.free (o + 1)
  obtain ⟨av, cv, hV⟩ := own_form (h.own s)
  have LK : (Instr.lookup 48 (.map (some M)) (.string s) false).run Tryz.prog w = .ok (.slice av (gl fs s).length cv) w := by rw [h.look hs', hV]
  have LD : (Instr.lookup 48 (.map (some M)) (.string s) false).run Tryz.prog w.drew = .ok (.slice av (gl fs s).length cv) w.drew := by
    have h2 : Fls w.drew B M n fs V := h.below (below_drewN (Below.refl _ _) 1)
    rw [h2.look hs', hV]
  obtain ⟨w2, hw2, h2, B2, F2⟩ : ∃ w2, w2 = (w.setCell ⟨D, o + 1, none⟩ (.int .i64 (u - (gl fs s).length))).drew ∧ Fls w2 B M n fs V ∧ Blk w2 D T (cs.setIfInBounds (o + 1) (.int .i64 (u - (gl fs s).length))) ∧ Fr w w2 (fun q => q = D) := by
    have F := (fr_set w D (o + 1) (.int .i64 (u - (gl fs s).length))).trans (fr_drew _ (fun _ => False)) (fun _ _ h => h) (fun _ _ h => h.elim)
    exact ⟨_, rfl, h.fr F (fun q hq e => hF (e ▸ hq)), hB.set _ _, F⟩
  obtain ⟨w3, hrun, h3, g3, z3⟩ := h2.strike hs' 0
  have B3 : Blk w3 D T (cs.setIfInBounds (o + 1) (.int .i64 (u - (gl fs s).length))) := B2.fr (Fr.of_grown g3) (by simpa using hDM)
  have c3 : w2.cell? ⟨D, o, none⟩ = some (.map (some M)) := by rw [B2.cell]; rw [Array.getElem?_setIfInBounds_ne (by omega)]; exact h0
  have FIN := Lib.hid (show Setd w B D M n T o cs (del fs s) (upd V s nilS) (u - (gl fs s).length) (.returned (.tuple #[])) w3 from
    ⟨rfl, h3, B3, F2.trans (Fr.of_grown g3) (fun q _ e => .inl e) (fun q _ e => .inr (by simpa using e))⟩)
  have W2 := Lib.hid hw2
  have hg2 : ((gl fs s).length : Int) ≤ 4194304 := by omega
  clear h2 B2 F2 h3 g3 z3 B3 hV h hB h0 h1 hw2
  generalize (gl fs s).length = g at *
  go_enter Tryz.func36, Tryz.ntmps36
  go_wp2_with fail
  go_region
  rw [← W2.out]
  clear LK LD c0 c1 f1
  go_wp2_with fail
  go_end0
  exact FIN.out
end Go.Proofs.YthnnenhpcceckaaGreat
/-
  BYTES THAT ARE LAID AT A PLACE: copy, and append behind.
-/
namespace Go.Proofs.YthnnenhpcceckaaGreat
open Go.RowKit
def bl (s : ByteArray) : List UInt8 := s.data.toList
theorem bl_len (s : ByteArray) : (bl s).length = s.size := by unfold bl; rw [Array.length_toList]; rfl
/-- bytes laid at a place -/
def splice (l : List UInt8) (at_ : Nat) (b : List UInt8) : List UInt8 := l.take at_ ++ b ++ l.drop (at_ + b.length)
theorem splice_len {l b : List UInt8} {at_ : Nat} (h : at_ ≤ l.length) : (splice l at_ b).length = max l.length (at_ + b.length) := by
  unfold splice
  simp
  omega
theorem splice_parts {l b : List UInt8} {at_ k : Nat} (h : at_ ≤ l.length) (hk : k = min b.length (l.length - at_)) : (l.take at_ ++ b.take k ++ l.drop (at_ + k)) ++ b.drop k = splice l at_ b := by
  unfold splice
  by_cases hb : b.length ≤ l.length - at_
  · have e : k = b.length := by omega
    subst e
    rw [List.take_length, List.drop_length, List.append_nil]
  · have e1 : at_ + k = l.length := by omega
    rw [e1, List.drop_length, List.append_nil, List.drop_eq_nil_of_le (by omega : l.length ≤ at_ + b.length), List.append_nil, List.append_assoc, List.take_append_drop]
theorem bcells_append (a b : List UInt8) : bcells (a ++ b) = bcells a ++ bcells b := by simp [bcells]
theorem byteCells_eq (l : List UInt8) : Lib.byteCells l = bcells l := rfl
theorem strCells_eq (s : ByteArray) : Lib.strCells s = bcells (bl s) := rfl
section
variable {P : Program}
/-- 'copy(dst, s)', s a string, as far as it goes -/
theorem run_copy_some (w : World) (dT sT ty elem : TypeId) (g o dLen dCap k : Nat) (s : ByteArray) (cur : Array Value) (t : TypeId)
    (hu : P.underlying dT = some (.slice elem)) (hs : (P.info? elem).map (·.size) = some 1) (hg : w.heap[g]? = some (.cells cur t (0, 0))) (hk : Nat.min s.size dLen = k) (hfit : o + k ≤ cur.size) :
    (Builtin.copy_ #[dT, sT] ty #[.slice (some ⟨g, o, none⟩) dLen dCap, .string s]).run P w =
      .ok (.int .i64 k) (w.setRow g (cur.toList.take o ++ bcells ((bl s).take k) ++ cur.toList.drop (o + k)).toArray) := by
  have hks : k ≤ s.size := by rw [← hk]; exact Nat.min_le_left _ _
  have hlen : (bcells ((bl s).take k)).length = k := by rw [bcells_len, List.length_take, bl_len]; omega
  have hone : ∀ v ∈ bcells ((bl s).take k), v.oneCell' = true := by
    intro v hv
    unfold bcells at hv
    obtain ⟨b, _, rfl⟩ := List.mem_map.1 hv
    rfl
  have hst := run_storeCells_at P g o t (bcells ((bl s).take k)) 0 cur w hg (by rw [hlen]; simpa using hfit) hone
  have htk : List.take k (List.map (fun b : UInt8 => Value.int IntKind.u8 (b.toNat : Int)) s.data.toList) = bcells ((bl s).take k) := by
    unfold bcells bl
    rw [List.map_take]
  rw [hlen] at hst
  simp only [Nat.add_zero] at hst
  cases hq : P.info? elem with
  | none => simp [hq] at hs
  | some i =>
    simp [Builtin.copy_, run_underlying hu, Builtin.lenOf, Builtin.firstCells, sizeOf, typeInfo, hq, hk]
    rw [htk, hst]
    simp [Result.andThen, goInt]
theorem run_copy_zero (w : World) (dT sT ty elem : TypeId) (d : Option Addr) (dLen dCap : Nat) (s : ByteArray)
    (hu : P.underlying dT = some (.slice elem)) (hs : ((P.info? elem).map (·.size)).isSome = true) (h0 : Nat.min s.size dLen = 0) :
    (Builtin.copy_ #[dT, sT] ty #[.slice d dLen dCap, .string s]).run P w = .ok (.int .i64 0) w := by
  cases hq : P.info? elem with
  | none => simp [hq] at hs
  | some i =>
    cases d <;> simp [Builtin.copy_, run_underlying hu, Builtin.lenOf, Builtin.firstCells, sizeOf, typeInfo, hq, h0, storeCells, goInt]
end
theorem info5 : (Tryz.prog.info? 5).map (fun i => (i.zero, i.size, i.bytes)) = some (some (.int .u8 0), 1, 1) := by kernel_rfl
theorem info5s : (Tryz.prog.info? 5).map (·.size) = some 1 := by kernel_rfl
set_option maxRecDepth 100000 in
/-- behind the copy -/
theorem copy_own {w : World} {B g m cv at_ k : Nat} {l : List UInt8} {s : ByteArray} (h : w.ownsRow B 5 1 (.slice (some ⟨g, 0, none⟩) m cv) m (bcells l)) (hm : l.length = m) (ha : at_ ≤ m) (hk : Nat.min s.size (m - at_) = k) (dCap : Nat) :
    ∃ w', (Builtin.copy_ #[55, 9] 3 #[.slice (some ⟨g, at_, none⟩) (m - at_) dCap, .string s]).run Tryz.prog w = .ok (.int .i64 k) w' ∧ w'.ownsRow B 5 1 (.slice (some ⟨g, 0, none⟩) m cv) m (bcells (l.take at_ ++ (bl s).take k ++ l.drop (at_ + k))) ∧ w.grownBy w' (some g) ∧ w'.heap.size = w.heap.size := by
  rcases h.2 with ⟨e, _⟩ | ⟨g', cap, cur, e, hB, hg, hmc, hcm, hcs, htk⟩
  · cases e
  · cases e
    have hks : k ≤ m - at_ := by rw [← hk]; exact Nat.min_le_right _ _
    have hks2 : k ≤ s.size := by rw [← hk]; exact Nat.min_le_left _ _
    have hrun := run_copy_some (P := Tryz.prog) w 55 9 3 5 g at_ (m - at_) dCap k s cur 5 Tryz.underlying55 info5s hg hk (by omega)
    refine ⟨_, hrun, ⟨by rw [bcells_len]; simp [bl_len]; omega, .inr ⟨g, cv, _, rfl, hB, setRow_heap w g cur _ 5 _ hg, hmc, hcm, ?_, ?_⟩⟩, ⟨rfl, rfl, rfl, by simp, fun q _ hne => setRow_other w g q _ (fun e => hne (by rw [e]))⟩, by simp⟩
    · simp [bcells_len, bl_len]
      omega
    · have h1 : cur.toList.take m = bcells l := by simpa using htk
      have h2 : cur.toList.take at_ = bcells (l.take at_) := by
        have : cur.toList.take at_ = (cur.toList.take m).take at_ := by rw [List.take_take]; congr 1; omega
        rw [this, h1]; unfold bcells; rw [List.map_take]
      rw [h2, bcells_append, bcells_append]
      have hl1 : (bcells (l.take at_) ++ bcells ((bl s).take k)).length = at_ + k := by simp [bcells_len, bl_len]; omega
      rw [List.take_append, hl1]
      simp only [Nat.mul_one]
      rw [List.take_of_length_le (by rw [hl1]; omega)]
      congr 1
      have h3 : (cur.toList.drop (at_ + k)).take (m - (at_ + k)) = (cur.toList.take m).drop (at_ + k) := by
        rw [List.drop_take]
      rw [h3, h1]
      unfold bcells
      rw [List.map_drop]
/-- behind the append -/
theorem append_own {w : World} {B : Nat} {v : Value} {n : Nat} {l : List UInt8} (h : w.ownsRow B 5 1 v n (bcells l)) (s : ByteArray) (hn : n + s.size ≤ 100000000) (hB : B ≤ w.heap.size) :
    ∃ v' w', (Builtin.append_ #[55, 9] 55 #[v, .string s]).run Tryz.prog w = .ok v' w' ∧ w'.ownsRow B 5 1 v' (n + s.size) (bcells (l ++ bl s)) ∧ w.grownBy w' v.ownBlock ∧ (v'.ownBlock = none ∨ v'.ownBlock = v.ownBlock ∨ v'.ownBlock = some w.heap.size) := by
  obtain ⟨i, hi, hz0, hz1, hz2⟩ := info_parts info5
  obtain ⟨v', w', hr, ho, hg, hnil⟩ := Lib.run_append_own_string (P := Tryz.prog) w B 55 9 55 5 i Tryz.underlying55 Tryz.underlying9 hi hz0 hz1 hz2 v n (bcells l) h s (by unfold maxLen; omega) (by omega) hB
  refine ⟨v', w', hr, by rw [bcells_append, ← strCells_eq]; exact ho, hg, ?_⟩
  rcases h.2 with ⟨rfl, rfl⟩ | ⟨g, cap, cur, rfl, _, hg', hnc, hcm, hcs, _⟩
  · by_cases h0 : s.size = 0
    · have := (hnil).2 ⟨rfl, h0⟩
      rw [this]; exact .inl rfl
    · have hr2 := run_append_nil_string (P := Tryz.prog) w 55 9 55 5 i (.int .u8 0) Tryz.underlying55 Tryz.underlying9 hi hz0 s (by omega) (by omega) (by rw [hz2]; omega)
      rw [hr] at hr2
      injection hr2 with e1 _
      rw [e1]; exact .inr (.inr rfl)
  · by_cases hroom : n + s.size ≤ cap
    · have hr2 := Lib.run_append_room_string (P := Tryz.prog) w 55 9 55 5 i Tryz.underlying55 Tryz.underlying9 hi hz1 g n cap cur hg' s hroom (by omega)
      rw [hr] at hr2
      injection hr2 with e1 _
      rw [e1]; exact .inr (.inl rfl)
    · have holds : ∀ j u, (bcells l)[j]? = some u → w.cell? ((⟨g, 0, none⟩ : Addr).add j) = some u := h.cells (g := g) rfl
      have hr2 := Lib.run_append_grow_string (P := Tryz.prog) w 55 9 55 5 i (.int .u8 0) Tryz.underlying55 Tryz.underlying9 hi hz0 ⟨g, 0, none⟩ n cap (bcells l) (by rw [hz1]; exact h.1) holds s (by omega) (by omega) (by rw [hz2]; exact growslice_fits (by omega) (by omega))
      rw [hr] at hr2
      injection hr2 with e1 _
      rw [e1]; exact .inr (.inr rfl)
end Go.Proofs.YthnnenhpcceckaaGreat
