/-
  WHAT THE ROWS REST ON, part 3: BNum BRnum BWrites BFront BText BTape BTake BMeths CPlain CSum CRsum CPack CCut CUnp Vot Tkv.
-/
import Derived.Test.YthdkflmkcoabaaaRows
import Derived.WalkKit
import Derived.WalkSpells
import Derived.WalkLawsBesides
import Derived.Lib.Zigzag
import Derived.Handy
import Derived.Lib.Hide
import Derived.Laws.BytesArg
import Derived.Laws.AppendOwn
import Derived.Laws.OwnMore
import Derived.OwnWalk
import Derived.Lib.SmallJoins
import Derived.WalkSmall
import Derived.Lib.QuietBelow
import Derived.BigQuiet
import Derived.Deep.QuietTactic
import Derived.Test.YthdkflmkcoabaaaPart2
/-
  THE WALKS OF bits.lay, bits.fold, bits.Num: what each answers, and that nothing that was there has turned.
-/
namespace Go.Proofs.Ythdkflmkcoabaaa.Bt
open Go.RowKit

/-- n's lowest k bytes, the highest first -/
def be : Nat → Int → List Int
  | 0, _ => []
  | k + 1, n => be k (n / 256) ++ [n % 256]
/-- how many bytes n has -/
def wid (n : Int) : Nat := if n < 256 then 1 else if n < 65536 then 2 else if n < 16777216 then 3 else if n < 4294967296 then 4 else if n < 1099511627776 then 5 else if n < 281474976710656 then 6 else if n < 72057594037927936 then 7 else 8
/-- a number's bytes, as the document says -/
def numI (n : Int) : List Int := if n ≤ 247 then [n] else ((247 + wid n : Nat) : Int) :: be (wid n) n
def numS (n : Int) : ByteArray := strOfNums (numI n)

theorem fold_eq (n : Int) (h0 : -9223372036854775808 ≤ n) (h1 : n ≤ 9223372036854775807) :
    bits BinOp.xor IntKind.u64 (IntKind.u64.wrap (IntKind.u64.wrap n * 2)) (IntKind.u64.wrap (n / 9223372036854775808)) = ((Lib.zigzag n : Nat) : Int) := by
  by_cases hn : 0 ≤ n
  · have e1 : n / 9223372036854775808 = 0 := by omega
    have e2 : IntKind.u64.wrap (0 : Int) = ((0 : Nat) : Int) := by decide
    have e3 : IntKind.u64.wrap (IntKind.u64.wrap n * 2) = (((2 * n).toNat : Nat) : Int) := by
      rw [IntKind.wrap_u64, IntKind.wrap_u64]; omega
    rw [e1, e2, e3, bits_xor_u64_nat _ _ (by omega) (by decide), Nat.xor_zero]
    unfold Lib.zigzag; rw [if_pos hn]
  · have e1 : n / 9223372036854775808 = -1 := by omega
    have e2 : IntKind.u64.wrap (-1 : Int) = ((2 ^ 64 - 1 : Nat) : Int) := by decide
    have e3 : IntKind.u64.wrap (IntKind.u64.wrap n * 2) = (((2 * n + 18446744073709551616).toNat : Nat) : Int) := by
      rw [IntKind.wrap_u64, IntKind.wrap_u64]; omega
    rw [e1, e2, e3, bits_xor_u64_nat _ _ (by omega) (by decide), Nat.xor_comm, Lib.xor_ones64 _ (by omega)]
    unfold Lib.zigzag; rw [if_neg hn]; omega
theorem fold_any (n : Int) (h0 : -9223372036854775808 ≤ n) (h1 : n ≤ 9223372036854775807) (w : World) :
    Calls Try.prog 64 #[.int .i64 n] w fun e w' => e = .returned (.int .u64 ((Lib.zigzag n : Nat) : Int)) ∧ w = w' := by
  have H := Lib.hid (fold_eq n h0 h1)
  go_enter Try.func64, Try.ntmps64
  go_wp2
  go_ret
  exact ⟨by rw [← H.out]; rfl, rfl⟩

/-- the nine bytes that lay answers -/
def laid (n : Int) : Array Value := #[.int .u8 0, .int .u8 (n / 256 / 256 / 256 / 256 / 256 / 256 / 256), .int .u8 (n / 256 / 256 / 256 / 256 / 256 / 256 % 256), .int .u8 (n / 256 / 256 / 256 / 256 / 256 % 256), .int .u8 (n / 256 / 256 / 256 / 256 % 256), .int .u8 (n / 256 / 256 / 256 % 256), .int .u8 (n / 256 / 256 % 256), .int .u8 (n / 256 % 256), .int .u8 (n % 256)]
set_option maxRecDepth 100000 in
set_option maxHeartbeats 1000000 in
theorem lay_any (n : Int) (h0 : 0 ≤ n) (h1 : n < 18446744073709551616) (w : World) :
    Calls Try.prog 63 #[.int .u64 n] w fun e w' => e = .returned (.agg (laid n)) ∧ w.alloc (.cells (laid n) 106) = w' := by
  go_enter Try.func63, Try.ntmps63
  go_wp2
  go_rounds 9
  go_returns
  exact ⟨rfl, rfl⟩
theorem lay_cells (cs : Array Value) (n : Int) (h0 : 0 ≤ n) (h1 : n < 18446744073709551616) (hc : laid n = cs) (w : World) :
    Calls Try.prog 63 #[.int .u64 n] w fun e w' => e = .returned (.agg cs) ∧ Below w.heap.size w w' :=
  (lay_any n h0 h1 w).mono fun e w' ⟨he, hw⟩ => ⟨by rw [he, hc], by subst hw; exact (Below.refl _ _).alloc (Nat.le_refl _) _⟩

/-- a new block's bytes as a string, from one of them on -/
theorem conv_new (W : World) (cs : List Value) (xs : List Int) (off : Nat) (h : cs.drop off = xs.map (Value.int .u8)) (len : Nat) (hl : xs.length = len) (t cap : Nat) :
    (convert 96 9 (.slice (some ⟨W.heap.size, off, none⟩) len cap)).run Try.prog (W.alloc (.cells cs.toArray t)) = .ok (.string (strOfNums xs)) (W.alloc (.cells cs.toArray t)) := by
  refine run_convert_bytes_arg (P := Try.prog) _ 96 5 Try.underlying96 Try.underlying5 W.heap.size off len cap xs hl ?_ 9 Try.underlying9
  intro i hi
  rw [World.cell?_alloc_new]
  have e := congrArg (fun l => l[i]?) h
  simp only [List.getElem?_drop, List.getElem?_map] at e
  rw [List.getElem?_toArray, e, List.getElem?_eq_getElem (by omega)]
  simp [List.getD, List.getElem?_eq_getElem (show i < xs.length by omega)]


set_option maxRecDepth 100000 in
set_option maxHeartbeats 1000000 in
theorem num_1 (n c8 : Int) (h0 : 247 < n) (h1 : n < 18446744073709551616) (hc : laid n = #[.int .u8 0, .int .u8 0, .int .u8 0, .int .u8 0, .int .u8 0, .int .u8 0, .int .u8 0, .int .u8 0, .int .u8 c8]) (hz : (c8 == 0) = false) (w : World) :
    Calls Try.prog 37 #[.int .u64 n] w fun e w' => e = .returned (.string (strOfNums [248, c8])) ∧ Below w.heap.size w w' := by
  have Hc := Lib.hid hc
  clear hc
  have hn : ¬ n ≤ 247 := by omega
  have hconv := fun W : World => conv_new W [.int .u8 0, .int .u8 0, .int .u8 0, .int .u8 0, .int .u8 0, .int .u8 0, .int .u8 0, .int .u8 248, .int .u8 c8] [248, c8] 7 rfl 2 rfl 106 2
  go_enter Try.func37, Try.ntmps37
  go_wp2_with (go_at_call 63; refine (lay_cells _ _ (by omega) (by omega) Hc.out _).mono ?_; rintro e w1 ⟨rfl, hb⟩)
  go_rounds 9
  go_ret
  exact ⟨rfl, hb.alloc hb.size _⟩


set_option maxRecDepth 100000 in
set_option maxHeartbeats 1000000 in
theorem num_2 (n c7 c8 : Int) (h0 : 247 < n) (h1 : n < 18446744073709551616) (hc : laid n = #[.int .u8 0, .int .u8 0, .int .u8 0, .int .u8 0, .int .u8 0, .int .u8 0, .int .u8 0, .int .u8 c7, .int .u8 c8]) (hz : (c7 == 0) = false) (w : World) :
    Calls Try.prog 37 #[.int .u64 n] w fun e w' => e = .returned (.string (strOfNums [249, c7, c8])) ∧ Below w.heap.size w w' := by
  have Hc := Lib.hid hc
  clear hc
  have hn : ¬ n ≤ 247 := by omega
  have hconv := fun W : World => conv_new W [.int .u8 0, .int .u8 0, .int .u8 0, .int .u8 0, .int .u8 0, .int .u8 0, .int .u8 249, .int .u8 c7, .int .u8 c8] [249, c7, c8] 6 rfl 3 rfl 106 3
  go_enter Try.func37, Try.ntmps37
  go_wp2_with (go_at_call 63; refine (lay_cells _ _ (by omega) (by omega) Hc.out _).mono ?_; rintro e w1 ⟨rfl, hb⟩)
  go_rounds 9
  go_ret
  exact ⟨rfl, hb.alloc hb.size _⟩


set_option maxRecDepth 100000 in
set_option maxHeartbeats 1000000 in
theorem num_3 (n c6 c7 c8 : Int) (h0 : 247 < n) (h1 : n < 18446744073709551616) (hc : laid n = #[.int .u8 0, .int .u8 0, .int .u8 0, .int .u8 0, .int .u8 0, .int .u8 0, .int .u8 c6, .int .u8 c7, .int .u8 c8]) (hz : (c6 == 0) = false) (w : World) :
    Calls Try.prog 37 #[.int .u64 n] w fun e w' => e = .returned (.string (strOfNums [250, c6, c7, c8])) ∧ Below w.heap.size w w' := by
  have Hc := Lib.hid hc
  clear hc
  have hn : ¬ n ≤ 247 := by omega
  have hconv := fun W : World => conv_new W [.int .u8 0, .int .u8 0, .int .u8 0, .int .u8 0, .int .u8 0, .int .u8 250, .int .u8 c6, .int .u8 c7, .int .u8 c8] [250, c6, c7, c8] 5 rfl 4 rfl 106 4
  go_enter Try.func37, Try.ntmps37
  go_wp2_with (go_at_call 63; refine (lay_cells _ _ (by omega) (by omega) Hc.out _).mono ?_; rintro e w1 ⟨rfl, hb⟩)
  go_rounds 9
  go_ret
  exact ⟨rfl, hb.alloc hb.size _⟩


set_option maxRecDepth 100000 in
set_option maxHeartbeats 1000000 in
theorem num_4 (n c5 c6 c7 c8 : Int) (h0 : 247 < n) (h1 : n < 18446744073709551616) (hc : laid n = #[.int .u8 0, .int .u8 0, .int .u8 0, .int .u8 0, .int .u8 0, .int .u8 c5, .int .u8 c6, .int .u8 c7, .int .u8 c8]) (hz : (c5 == 0) = false) (w : World) :
    Calls Try.prog 37 #[.int .u64 n] w fun e w' => e = .returned (.string (strOfNums [251, c5, c6, c7, c8])) ∧ Below w.heap.size w w' := by
  have Hc := Lib.hid hc
  clear hc
  have hn : ¬ n ≤ 247 := by omega
  have hconv := fun W : World => conv_new W [.int .u8 0, .int .u8 0, .int .u8 0, .int .u8 0, .int .u8 251, .int .u8 c5, .int .u8 c6, .int .u8 c7, .int .u8 c8] [251, c5, c6, c7, c8] 4 rfl 5 rfl 106 5
  go_enter Try.func37, Try.ntmps37
  go_wp2_with (go_at_call 63; refine (lay_cells _ _ (by omega) (by omega) Hc.out _).mono ?_; rintro e w1 ⟨rfl, hb⟩)
  go_rounds 9
  go_ret
  exact ⟨rfl, hb.alloc hb.size _⟩


set_option maxRecDepth 100000 in
set_option maxHeartbeats 1000000 in
theorem num_5 (n c4 c5 c6 c7 c8 : Int) (h0 : 247 < n) (h1 : n < 18446744073709551616) (hc : laid n = #[.int .u8 0, .int .u8 0, .int .u8 0, .int .u8 0, .int .u8 c4, .int .u8 c5, .int .u8 c6, .int .u8 c7, .int .u8 c8]) (hz : (c4 == 0) = false) (w : World) :
    Calls Try.prog 37 #[.int .u64 n] w fun e w' => e = .returned (.string (strOfNums [252, c4, c5, c6, c7, c8])) ∧ Below w.heap.size w w' := by
  have Hc := Lib.hid hc
  clear hc
  have hn : ¬ n ≤ 247 := by omega
  have hconv := fun W : World => conv_new W [.int .u8 0, .int .u8 0, .int .u8 0, .int .u8 252, .int .u8 c4, .int .u8 c5, .int .u8 c6, .int .u8 c7, .int .u8 c8] [252, c4, c5, c6, c7, c8] 3 rfl 6 rfl 106 6
  go_enter Try.func37, Try.ntmps37
  go_wp2_with (go_at_call 63; refine (lay_cells _ _ (by omega) (by omega) Hc.out _).mono ?_; rintro e w1 ⟨rfl, hb⟩)
  go_rounds 9
  go_ret
  exact ⟨rfl, hb.alloc hb.size _⟩


set_option maxRecDepth 100000 in
set_option maxHeartbeats 1000000 in
theorem num_6 (n c3 c4 c5 c6 c7 c8 : Int) (h0 : 247 < n) (h1 : n < 18446744073709551616) (hc : laid n = #[.int .u8 0, .int .u8 0, .int .u8 0, .int .u8 c3, .int .u8 c4, .int .u8 c5, .int .u8 c6, .int .u8 c7, .int .u8 c8]) (hz : (c3 == 0) = false) (w : World) :
    Calls Try.prog 37 #[.int .u64 n] w fun e w' => e = .returned (.string (strOfNums [253, c3, c4, c5, c6, c7, c8])) ∧ Below w.heap.size w w' := by
  have Hc := Lib.hid hc
  clear hc
  have hn : ¬ n ≤ 247 := by omega
  have hconv := fun W : World => conv_new W [.int .u8 0, .int .u8 0, .int .u8 253, .int .u8 c3, .int .u8 c4, .int .u8 c5, .int .u8 c6, .int .u8 c7, .int .u8 c8] [253, c3, c4, c5, c6, c7, c8] 2 rfl 7 rfl 106 7
  go_enter Try.func37, Try.ntmps37
  go_wp2_with (go_at_call 63; refine (lay_cells _ _ (by omega) (by omega) Hc.out _).mono ?_; rintro e w1 ⟨rfl, hb⟩)
  go_rounds 9
  go_ret
  exact ⟨rfl, hb.alloc hb.size _⟩


set_option maxRecDepth 100000 in
set_option maxHeartbeats 1000000 in
theorem num_7 (n c2 c3 c4 c5 c6 c7 c8 : Int) (h0 : 247 < n) (h1 : n < 18446744073709551616) (hc : laid n = #[.int .u8 0, .int .u8 0, .int .u8 c2, .int .u8 c3, .int .u8 c4, .int .u8 c5, .int .u8 c6, .int .u8 c7, .int .u8 c8]) (hz : (c2 == 0) = false) (w : World) :
    Calls Try.prog 37 #[.int .u64 n] w fun e w' => e = .returned (.string (strOfNums [254, c2, c3, c4, c5, c6, c7, c8])) ∧ Below w.heap.size w w' := by
  have Hc := Lib.hid hc
  clear hc
  have hn : ¬ n ≤ 247 := by omega
  have hconv := fun W : World => conv_new W [.int .u8 0, .int .u8 254, .int .u8 c2, .int .u8 c3, .int .u8 c4, .int .u8 c5, .int .u8 c6, .int .u8 c7, .int .u8 c8] [254, c2, c3, c4, c5, c6, c7, c8] 1 rfl 8 rfl 106 8
  go_enter Try.func37, Try.ntmps37
  go_wp2_with (go_at_call 63; refine (lay_cells _ _ (by omega) (by omega) Hc.out _).mono ?_; rintro e w1 ⟨rfl, hb⟩)
  go_rounds 9
  go_ret
  exact ⟨rfl, hb.alloc hb.size _⟩


set_option maxRecDepth 100000 in
set_option maxHeartbeats 1000000 in
theorem num_8 (n c1 c2 c3 c4 c5 c6 c7 c8 : Int) (h0 : 247 < n) (h1 : n < 18446744073709551616) (hc : laid n = #[.int .u8 0, .int .u8 c1, .int .u8 c2, .int .u8 c3, .int .u8 c4, .int .u8 c5, .int .u8 c6, .int .u8 c7, .int .u8 c8]) (hz : (c1 == 0) = false) (w : World) :
    Calls Try.prog 37 #[.int .u64 n] w fun e w' => e = .returned (.string (strOfNums [255, c1, c2, c3, c4, c5, c6, c7, c8])) ∧ Below w.heap.size w w' := by
  have Hc := Lib.hid hc
  clear hc
  have hn : ¬ n ≤ 247 := by omega
  have hconv := fun W : World => conv_new W [.int .u8 255, .int .u8 c1, .int .u8 c2, .int .u8 c3, .int .u8 c4, .int .u8 c5, .int .u8 c6, .int .u8 c7, .int .u8 c8] [255, c1, c2, c3, c4, c5, c6, c7, c8] 0 rfl 9 rfl 106 9
  go_enter Try.func37, Try.ntmps37
  go_wp2_with (go_at_call 63; refine (lay_cells _ _ (by omega) (by omega) Hc.out _).mono ?_; rintro e w1 ⟨rfl, hb⟩)
  go_rounds 9
  go_ret
  exact ⟨rfl, hb.alloc hb.size _⟩


theorem num_0 (n : Int) (h0 : 0 ≤ n) (h1 : n ≤ 247) (w : World) :
    Calls Try.prog 37 #[.int .u64 n] w fun e w' => e = .returned (.string (strOfNums [n])) ∧ Below w.heap.size w w' := by
  have hconv := fun W : World => conv_new W [.int .u8 n] [n] 0 rfl 1 rfl 5 1
  go_enter Try.func37, Try.ntmps37
  go_wp2
  go_ret
  exact ⟨rfl, (Below.refl _ _).alloc (Nat.le_refl _) _⟩


theorem num_any (n : Int) (h0 : 0 ≤ n) (h1 : n < 18446744073709551616) (w : World) :
    Calls Try.prog 37 #[.int .u64 n] w fun e w' => e = .returned (.string (numS n)) ∧ Below w.heap.size w w' := by
  unfold numS numI wid
  by_cases hn : n ≤ 247
  · rw [if_pos hn]; exact num_0 n h0 hn w
  rw [if_neg hn]
  by_cases g1 : n < 256
  · rw [if_pos g1]
    refine num_1 n (n % 256) (by omega) h1 ?_ (beq_eq_false_iff_ne.2 (by omega)) w
    unfold laid; congr 1; simp only [List.cons.injEq, Value.int.injEq, true_and, and_true]; omega
  by_cases g2 : n < 65536
  · rw [if_neg g1, if_pos g2]
    refine num_2 n (n / 256 % 256) (n % 256) (by omega) h1 ?_ (beq_eq_false_iff_ne.2 (by omega)) w
    unfold laid; congr 1; simp only [List.cons.injEq, Value.int.injEq, true_and, and_true]; omega
  by_cases g3 : n < 16777216
  · rw [if_neg g1, if_neg g2, if_pos g3]
    refine num_3 n (n / 256 / 256 % 256) (n / 256 % 256) (n % 256) (by omega) h1 ?_ (beq_eq_false_iff_ne.2 (by omega)) w
    unfold laid; congr 1; simp only [List.cons.injEq, Value.int.injEq, true_and, and_true]; omega
  by_cases g4 : n < 4294967296
  · rw [if_neg g1, if_neg g2, if_neg g3, if_pos g4]
    refine num_4 n (n / 256 / 256 / 256 % 256) (n / 256 / 256 % 256) (n / 256 % 256) (n % 256) (by omega) h1 ?_ (beq_eq_false_iff_ne.2 (by omega)) w
    unfold laid; congr 1; simp only [List.cons.injEq, Value.int.injEq, true_and, and_true]; omega
  by_cases g5 : n < 1099511627776
  · rw [if_neg g1, if_neg g2, if_neg g3, if_neg g4, if_pos g5]
    refine num_5 n (n / 256 / 256 / 256 / 256 % 256) (n / 256 / 256 / 256 % 256) (n / 256 / 256 % 256) (n / 256 % 256) (n % 256) (by omega) h1 ?_ (beq_eq_false_iff_ne.2 (by omega)) w
    unfold laid; congr 1; simp only [List.cons.injEq, Value.int.injEq, true_and, and_true]; omega
  by_cases g6 : n < 281474976710656
  · rw [if_neg g1, if_neg g2, if_neg g3, if_neg g4, if_neg g5, if_pos g6]
    refine num_6 n (n / 256 / 256 / 256 / 256 / 256 % 256) (n / 256 / 256 / 256 / 256 % 256) (n / 256 / 256 / 256 % 256) (n / 256 / 256 % 256) (n / 256 % 256) (n % 256) (by omega) h1 ?_ (beq_eq_false_iff_ne.2 (by omega)) w
    unfold laid; congr 1; simp only [List.cons.injEq, Value.int.injEq, true_and, and_true]; omega
  by_cases g7 : n < 72057594037927936
  · rw [if_neg g1, if_neg g2, if_neg g3, if_neg g4, if_neg g5, if_neg g6, if_pos g7]
    refine num_7 n (n / 256 / 256 / 256 / 256 / 256 / 256 % 256) (n / 256 / 256 / 256 / 256 / 256 % 256) (n / 256 / 256 / 256 / 256 % 256) (n / 256 / 256 / 256 % 256) (n / 256 / 256 % 256) (n / 256 % 256) (n % 256) (by omega) h1 ?_ (beq_eq_false_iff_ne.2 (by omega)) w
    unfold laid; congr 1; simp only [List.cons.injEq, Value.int.injEq, true_and, and_true]; omega
  rw [if_neg g1, if_neg g2, if_neg g3, if_neg g4, if_neg g5, if_neg g6, if_neg g7]
  refine num_8 n (n / 256 / 256 / 256 / 256 / 256 / 256 / 256 % 256) (n / 256 / 256 / 256 / 256 / 256 / 256 % 256) (n / 256 / 256 / 256 / 256 / 256 % 256) (n / 256 / 256 / 256 / 256 % 256) (n / 256 / 256 / 256 % 256) (n / 256 / 256 % 256) (n / 256 % 256) (n % 256) (by omega) h1 ?_ (beq_eq_false_iff_ne.2 (by omega)) w
  unfold laid; congr 1; simp only [List.cons.injEq, Value.int.injEq, true_and, and_true]; omega

end Go.Proofs.Ythdkflmkcoabaaa.Bt
/-
  THE WALK OF THE DOCUMENT'S OWN Num (auspiceref01): the bytes are appended one by one to a slice of its own.
-/
namespace Go.Proofs.Ythdkflmkcoabaaa.Bt
open Go.RowKit

theorem info5 : (Try.prog.info? 5).map (fun i => (i.zero, i.size, i.bytes)) = some (some (.int .u8 0), 1, 1) := by kernel_rfl
/-- a slice of bytes that the call owns, from block B on -/
def Bytes (w : World) (B : Nat) (v : Value) (xs : List Int) : Prop := w.ownsRow B 5 1 v xs.length (xs.map (Value.int .u8))

theorem Bytes.lit (w : World) (B : Nat) (hb : B ≤ w.heap.size) (xs : List Int) (hm : xs.length ≤ maxLen) :
    Bytes (w.alloc (.cells (xs.map (Value.int .u8)).toArray 5)) B (.slice (some ⟨w.heap.size, 0, none⟩) xs.length xs.length) xs := by
  have h := World.ownsRow_lit (base := B) (e := 5) (size := 1) w (xs.map (Value.int .u8)).toArray xs.length hb hm (by simp)
  simpa [Bytes] using h

theorem Bytes.drew {w : World} {B : Nat} {v : Value} {xs : List Int} (h : Bytes w B v xs) : Bytes w.drew B v xs := h

theorem append_byte {ops : Array Oper} {rest : List Oper} {o : Oper} {a : Act} {Q : Exit → Act → World → Prop} (W : World) (hgd : o.guard = none) (s x : Operand)
    (ho : o.op = .call { callee := .builtin .append, args := #[s, x], argTypes := #[96, 96] })
    (B : Nat) (v : Value) (xs : List Int) (hs : a.eval s = v) (hown : Bytes W B v xs) (c : Int)
    (hx : a.eval x = .slice (some ⟨W.heap.size, 0, none⟩) 1 1) (hlen : xs.length + 1 ≤ 140737488355328) (hB : B ≤ W.heap.size)
    (h : ∀ v' w', Bytes w' B v' (xs ++ [c]) → Below B W w' → wpList Try.prog ops Q rest (a.put o.dst v') w') :
    wpList Try.prog ops Q (o :: rest) a (W.alloc (.cells #[.int .u8 c] 5)) := by
  obtain ⟨i, hi, hz0, hz1, hz2⟩ := info_parts info5
  refine wpList_append_own _ hgd s x 96 ho B 5 i (.int .u8 0) 1 1 Try.underlying96 hi hz0 hz1 hz2 rfl (by decide) v xs.length (xs.map (Value.int .u8)) hs (hown.alloc _) ⟨W.heap.size, 0, none⟩ 1 1 [.int .u8 c] hx rfl ?_ ?_ ?_ ?_ ?_ ?_
  · exact cell_one_new _ _ _
  · intro u hu; simp at hu; subst hu; rfl
  · unfold maxLen; omega
  · omega
  · simp; omega
  · intro v' w' ho' hg _
    refine h v' w' ?_ ?_
    · simpa [Bytes] using ho'
    · refine (((Below.refl B W).alloc hB _).grown hg (by simp; omega) ?_)
      intro k hk
      obtain ⟨_, h2⟩ := hown
      rcases h2 with ⟨rfl, _⟩ | ⟨g, cap, cur, rfl, hg', _⟩
      · simp [Value.ownBlock] at hk
      · simp [Value.ownBlock] at hk; omega


theorem conv_own {W : World} {B : Nat} {v : Value} {xs : List Int} (h : Bytes W B v xs) : (convert 96 9 v).run Try.prog W = .ok (.string (strOfNums xs)) W := by
  rcases Joins.ownsRow_forms h with ⟨rfl, hn⟩ | ⟨g, cap, rfl⟩
  · rw [run_convert_bytes_nil (P := Try.prog) W 96 5 Try.underlying96 Try.underlying5 0 0 9 Try.underlying9]
    rw [List.eq_nil_of_length_eq_zero hn]; rfl
  · refine run_convert_bytes_arg (P := Try.prog) W 96 5 Try.underlying96 Try.underlying5 g 0 xs.length cap xs rfl ?_ 9 Try.underlying9
    intro i hi
    have e := World.ownsRow.cellAt h i (by omega)
    rw [Nat.zero_add, e]
    simp [List.getD, List.getElem?_eq_getElem hi]



set_option maxRecDepth 100000 in
set_option maxHeartbeats 1000000 in
theorem rnum_1 (n : Int) (h0 : 248 ≤ n) (h1 : n < 256) (w : World) :
    Calls Try.prog 39 #[.int .u64 n] w fun e w' => e = .returned (.string (strOfNums [248, n])) ∧ Below w.heap.size w w' := by
  have hn : ¬ n ≤ 247 := by omega
  go_enter Try.func39, Try.ntmps39
  go_wp2
  go_rounds 9
  have o0 := Bytes.lit w w.heap.size (Nat.le_refl _) [248] (by decide)
  have b0 := (Below.refl w.heap.size w).alloc (Nat.le_refl _) (.cells #[.int .u8 248] 5)
  simp only [List.map_cons, List.map_nil, List.length_cons, List.length_nil, Nat.zero_add] at o0
  refine wp_loop_rounds 10 ?_
  generalize w.alloc (.cells #[.int .u8 248] 5) = w0 at *
  have z0 := b0.size
  rw [rounds_succ]
  go_wp2_with (at_builtin; refine append_byte _ rfl _ _ rfl w.heap.size _ _ rfl o0 _ rfl (by simp) (by omega) ?_; intro v1 w1 o1 b1)
  have z1 := b1.size
  have hcv := conv_own o1
  rw [rounds_succ]
  go_wp2_with fail
  go_ret
  exact ⟨rfl, (b0.trans b1)⟩


set_option maxRecDepth 100000 in
set_option maxHeartbeats 1000000 in
theorem rnum_2 (n : Int) (h0 : 256 ≤ n) (h1 : n < 65536) (w : World) :
    Calls Try.prog 39 #[.int .u64 n] w fun e w' => e = .returned (.string (strOfNums [249, n / 256, n % 256])) ∧ Below w.heap.size w w' := by
  have hn : ¬ n ≤ 247 := by omega
  go_enter Try.func39, Try.ntmps39
  go_wp2
  go_rounds 9
  have o0 := Bytes.lit w w.heap.size (Nat.le_refl _) [249] (by decide)
  have b0 := (Below.refl w.heap.size w).alloc (Nat.le_refl _) (.cells #[.int .u8 249] 5)
  simp only [List.map_cons, List.map_nil, List.length_cons, List.length_nil, Nat.zero_add] at o0
  refine wp_loop_rounds 10 ?_
  generalize w.alloc (.cells #[.int .u8 249] 5) = w0 at *
  have z0 := b0.size
  rw [rounds_succ]
  go_wp2_with (at_builtin; refine append_byte _ rfl _ _ rfl w.heap.size _ _ rfl o0 _ rfl (by simp) (by omega) ?_; intro v1 w1 o1 b1)
  have z1 := b1.size
  rw [rounds_succ]
  go_wp2_with (at_builtin; refine append_byte _ rfl _ _ rfl w.heap.size _ _ rfl o1 _ rfl (by simp) (by omega) ?_; intro v2 w2 o2 b2)
  have z2 := b2.size
  have hcv := conv_own o2
  rw [rounds_succ]
  go_wp2_with fail
  go_ret
  exact ⟨rfl, ((b0.trans b1).trans b2)⟩


set_option maxRecDepth 100000 in
set_option maxHeartbeats 1000000 in
theorem rnum_3 (n : Int) (h0 : 65536 ≤ n) (h1 : n < 16777216) (w : World) :
    Calls Try.prog 39 #[.int .u64 n] w fun e w' => e = .returned (.string (strOfNums [250, n / 65536, n / 256 % 256, n % 256])) ∧ Below w.heap.size w w' := by
  have hn : ¬ n ≤ 247 := by omega
  go_enter Try.func39, Try.ntmps39
  go_wp2
  go_rounds 9
  have o0 := Bytes.lit w w.heap.size (Nat.le_refl _) [250] (by decide)
  have b0 := (Below.refl w.heap.size w).alloc (Nat.le_refl _) (.cells #[.int .u8 250] 5)
  simp only [List.map_cons, List.map_nil, List.length_cons, List.length_nil, Nat.zero_add] at o0
  refine wp_loop_rounds 10 ?_
  generalize w.alloc (.cells #[.int .u8 250] 5) = w0 at *
  have z0 := b0.size
  rw [rounds_succ]
  go_wp2_with (at_builtin; refine append_byte _ rfl _ _ rfl w.heap.size _ _ rfl o0 _ rfl (by simp) (by omega) ?_; intro v1 w1 o1 b1)
  have z1 := b1.size
  rw [rounds_succ]
  go_wp2_with (at_builtin; refine append_byte _ rfl _ _ rfl w.heap.size _ _ rfl o1 _ rfl (by simp) (by omega) ?_; intro v2 w2 o2 b2)
  have z2 := b2.size
  rw [rounds_succ]
  go_wp2_with (at_builtin; refine append_byte _ rfl _ _ rfl w.heap.size _ _ rfl o2 _ rfl (by simp) (by omega) ?_; intro v3 w3 o3 b3)
  have z3 := b3.size
  have hcv := conv_own o3
  rw [rounds_succ]
  go_wp2_with fail
  go_ret
  exact ⟨rfl, (((b0.trans b1).trans b2).trans b3)⟩


set_option maxRecDepth 100000 in
set_option maxHeartbeats 1000000 in
theorem rnum_4 (n : Int) (h0 : 16777216 ≤ n) (h1 : n < 4294967296) (w : World) :
    Calls Try.prog 39 #[.int .u64 n] w fun e w' => e = .returned (.string (strOfNums [251, n / 16777216, n / 65536 % 256, n / 256 % 256, n % 256])) ∧ Below w.heap.size w w' := by
  have hn : ¬ n ≤ 247 := by omega
  go_enter Try.func39, Try.ntmps39
  go_wp2
  go_rounds 9
  have o0 := Bytes.lit w w.heap.size (Nat.le_refl _) [251] (by decide)
  have b0 := (Below.refl w.heap.size w).alloc (Nat.le_refl _) (.cells #[.int .u8 251] 5)
  simp only [List.map_cons, List.map_nil, List.length_cons, List.length_nil, Nat.zero_add] at o0
  refine wp_loop_rounds 10 ?_
  generalize w.alloc (.cells #[.int .u8 251] 5) = w0 at *
  have z0 := b0.size
  rw [rounds_succ]
  go_wp2_with (at_builtin; refine append_byte _ rfl _ _ rfl w.heap.size _ _ rfl o0 _ rfl (by simp) (by omega) ?_; intro v1 w1 o1 b1)
  have z1 := b1.size
  rw [rounds_succ]
  go_wp2_with (at_builtin; refine append_byte _ rfl _ _ rfl w.heap.size _ _ rfl o1 _ rfl (by simp) (by omega) ?_; intro v2 w2 o2 b2)
  have z2 := b2.size
  rw [rounds_succ]
  go_wp2_with (at_builtin; refine append_byte _ rfl _ _ rfl w.heap.size _ _ rfl o2 _ rfl (by simp) (by omega) ?_; intro v3 w3 o3 b3)
  have z3 := b3.size
  rw [rounds_succ]
  go_wp2_with (at_builtin; refine append_byte _ rfl _ _ rfl w.heap.size _ _ rfl o3 _ rfl (by simp) (by omega) ?_; intro v4 w4 o4 b4)
  have z4 := b4.size
  have hcv := conv_own o4
  rw [rounds_succ]
  go_wp2_with fail
  go_ret
  exact ⟨rfl, ((((b0.trans b1).trans b2).trans b3).trans b4)⟩


set_option maxRecDepth 100000 in
set_option maxHeartbeats 1000000 in
theorem rnum_5 (n : Int) (h0 : 4294967296 ≤ n) (h1 : n < 1099511627776) (w : World) :
    Calls Try.prog 39 #[.int .u64 n] w fun e w' => e = .returned (.string (strOfNums [252, n / 4294967296, n / 16777216 % 256, n / 65536 % 256, n / 256 % 256, n % 256])) ∧ Below w.heap.size w w' := by
  have hn : ¬ n ≤ 247 := by omega
  go_enter Try.func39, Try.ntmps39
  go_wp2
  go_rounds 9
  have o0 := Bytes.lit w w.heap.size (Nat.le_refl _) [252] (by decide)
  have b0 := (Below.refl w.heap.size w).alloc (Nat.le_refl _) (.cells #[.int .u8 252] 5)
  simp only [List.map_cons, List.map_nil, List.length_cons, List.length_nil, Nat.zero_add] at o0
  refine wp_loop_rounds 10 ?_
  generalize w.alloc (.cells #[.int .u8 252] 5) = w0 at *
  have z0 := b0.size
  rw [rounds_succ]
  go_wp2_with (at_builtin; refine append_byte _ rfl _ _ rfl w.heap.size _ _ rfl o0 _ rfl (by simp) (by omega) ?_; intro v1 w1 o1 b1)
  have z1 := b1.size
  rw [rounds_succ]
  go_wp2_with (at_builtin; refine append_byte _ rfl _ _ rfl w.heap.size _ _ rfl o1 _ rfl (by simp) (by omega) ?_; intro v2 w2 o2 b2)
  have z2 := b2.size
  rw [rounds_succ]
  go_wp2_with (at_builtin; refine append_byte _ rfl _ _ rfl w.heap.size _ _ rfl o2 _ rfl (by simp) (by omega) ?_; intro v3 w3 o3 b3)
  have z3 := b3.size
  rw [rounds_succ]
  go_wp2_with (at_builtin; refine append_byte _ rfl _ _ rfl w.heap.size _ _ rfl o3 _ rfl (by simp) (by omega) ?_; intro v4 w4 o4 b4)
  have z4 := b4.size
  rw [rounds_succ]
  go_wp2_with (at_builtin; refine append_byte _ rfl _ _ rfl w.heap.size _ _ rfl o4 _ rfl (by simp) (by omega) ?_; intro v5 w5 o5 b5)
  have z5 := b5.size
  have hcv := conv_own o5
  rw [rounds_succ]
  go_wp2_with fail
  go_ret
  exact ⟨rfl, (((((b0.trans b1).trans b2).trans b3).trans b4).trans b5)⟩


set_option maxRecDepth 100000 in
set_option maxHeartbeats 1000000 in
theorem rnum_6 (n : Int) (h0 : 1099511627776 ≤ n) (h1 : n < 281474976710656) (w : World) :
    Calls Try.prog 39 #[.int .u64 n] w fun e w' => e = .returned (.string (strOfNums [253, n / 1099511627776, n / 4294967296 % 256, n / 16777216 % 256, n / 65536 % 256, n / 256 % 256, n % 256])) ∧ Below w.heap.size w w' := by
  have hn : ¬ n ≤ 247 := by omega
  go_enter Try.func39, Try.ntmps39
  go_wp2
  go_rounds 9
  have o0 := Bytes.lit w w.heap.size (Nat.le_refl _) [253] (by decide)
  have b0 := (Below.refl w.heap.size w).alloc (Nat.le_refl _) (.cells #[.int .u8 253] 5)
  simp only [List.map_cons, List.map_nil, List.length_cons, List.length_nil, Nat.zero_add] at o0
  refine wp_loop_rounds 10 ?_
  generalize w.alloc (.cells #[.int .u8 253] 5) = w0 at *
  have z0 := b0.size
  rw [rounds_succ]
  go_wp2_with (at_builtin; refine append_byte _ rfl _ _ rfl w.heap.size _ _ rfl o0 _ rfl (by simp) (by omega) ?_; intro v1 w1 o1 b1)
  have z1 := b1.size
  rw [rounds_succ]
  go_wp2_with (at_builtin; refine append_byte _ rfl _ _ rfl w.heap.size _ _ rfl o1 _ rfl (by simp) (by omega) ?_; intro v2 w2 o2 b2)
  have z2 := b2.size
  rw [rounds_succ]
  go_wp2_with (at_builtin; refine append_byte _ rfl _ _ rfl w.heap.size _ _ rfl o2 _ rfl (by simp) (by omega) ?_; intro v3 w3 o3 b3)
  have z3 := b3.size
  rw [rounds_succ]
  go_wp2_with (at_builtin; refine append_byte _ rfl _ _ rfl w.heap.size _ _ rfl o3 _ rfl (by simp) (by omega) ?_; intro v4 w4 o4 b4)
  have z4 := b4.size
  rw [rounds_succ]
  go_wp2_with (at_builtin; refine append_byte _ rfl _ _ rfl w.heap.size _ _ rfl o4 _ rfl (by simp) (by omega) ?_; intro v5 w5 o5 b5)
  have z5 := b5.size
  rw [rounds_succ]
  go_wp2_with (at_builtin; refine append_byte _ rfl _ _ rfl w.heap.size _ _ rfl o5 _ rfl (by simp) (by omega) ?_; intro v6 w6 o6 b6)
  have z6 := b6.size
  have hcv := conv_own o6
  rw [rounds_succ]
  go_wp2_with fail
  go_ret
  exact ⟨rfl, ((((((b0.trans b1).trans b2).trans b3).trans b4).trans b5).trans b6)⟩


set_option maxRecDepth 100000 in
set_option maxHeartbeats 1000000 in
theorem rnum_7 (n : Int) (h0 : 281474976710656 ≤ n) (h1 : n < 72057594037927936) (w : World) :
    Calls Try.prog 39 #[.int .u64 n] w fun e w' => e = .returned (.string (strOfNums [254, n / 281474976710656, n / 1099511627776 % 256, n / 4294967296 % 256, n / 16777216 % 256, n / 65536 % 256, n / 256 % 256, n % 256])) ∧ Below w.heap.size w w' := by
  have hn : ¬ n ≤ 247 := by omega
  go_enter Try.func39, Try.ntmps39
  go_wp2
  go_rounds 9
  have o0 := Bytes.lit w w.heap.size (Nat.le_refl _) [254] (by decide)
  have b0 := (Below.refl w.heap.size w).alloc (Nat.le_refl _) (.cells #[.int .u8 254] 5)
  simp only [List.map_cons, List.map_nil, List.length_cons, List.length_nil, Nat.zero_add] at o0
  refine wp_loop_rounds 10 ?_
  generalize w.alloc (.cells #[.int .u8 254] 5) = w0 at *
  have z0 := b0.size
  rw [rounds_succ]
  go_wp2_with (at_builtin; refine append_byte _ rfl _ _ rfl w.heap.size _ _ rfl o0 _ rfl (by simp) (by omega) ?_; intro v1 w1 o1 b1)
  have z1 := b1.size
  rw [rounds_succ]
  go_wp2_with (at_builtin; refine append_byte _ rfl _ _ rfl w.heap.size _ _ rfl o1 _ rfl (by simp) (by omega) ?_; intro v2 w2 o2 b2)
  have z2 := b2.size
  rw [rounds_succ]
  go_wp2_with (at_builtin; refine append_byte _ rfl _ _ rfl w.heap.size _ _ rfl o2 _ rfl (by simp) (by omega) ?_; intro v3 w3 o3 b3)
  have z3 := b3.size
  rw [rounds_succ]
  go_wp2_with (at_builtin; refine append_byte _ rfl _ _ rfl w.heap.size _ _ rfl o3 _ rfl (by simp) (by omega) ?_; intro v4 w4 o4 b4)
  have z4 := b4.size
  rw [rounds_succ]
  go_wp2_with (at_builtin; refine append_byte _ rfl _ _ rfl w.heap.size _ _ rfl o4 _ rfl (by simp) (by omega) ?_; intro v5 w5 o5 b5)
  have z5 := b5.size
  rw [rounds_succ]
  go_wp2_with (at_builtin; refine append_byte _ rfl _ _ rfl w.heap.size _ _ rfl o5 _ rfl (by simp) (by omega) ?_; intro v6 w6 o6 b6)
  have z6 := b6.size
  rw [rounds_succ]
  go_wp2_with (at_builtin; refine append_byte _ rfl _ _ rfl w.heap.size _ _ rfl o6 _ rfl (by simp) (by omega) ?_; intro v7 w7 o7 b7)
  have z7 := b7.size
  have hcv := conv_own o7
  rw [rounds_succ]
  go_wp2_with fail
  go_ret
  exact ⟨rfl, (((((((b0.trans b1).trans b2).trans b3).trans b4).trans b5).trans b6).trans b7)⟩


set_option maxRecDepth 100000 in
set_option maxHeartbeats 1000000 in
theorem rnum_8 (n : Int) (h0 : 72057594037927936 ≤ n) (h1 : n < 18446744073709551616) (w : World) :
    Calls Try.prog 39 #[.int .u64 n] w fun e w' => e = .returned (.string (strOfNums [255, n / 72057594037927936, n / 281474976710656 % 256, n / 1099511627776 % 256, n / 4294967296 % 256, n / 16777216 % 256, n / 65536 % 256, n / 256 % 256, n % 256])) ∧ Below w.heap.size w w' := by
  have hn : ¬ n ≤ 247 := by omega
  go_enter Try.func39, Try.ntmps39
  go_wp2
  go_rounds 9
  have o0 := Bytes.lit w w.heap.size (Nat.le_refl _) [255] (by decide)
  have b0 := (Below.refl w.heap.size w).alloc (Nat.le_refl _) (.cells #[.int .u8 255] 5)
  simp only [List.map_cons, List.map_nil, List.length_cons, List.length_nil, Nat.zero_add] at o0
  refine wp_loop_rounds 10 ?_
  generalize w.alloc (.cells #[.int .u8 255] 5) = w0 at *
  have z0 := b0.size
  rw [rounds_succ]
  go_wp2_with (at_builtin; refine append_byte _ rfl _ _ rfl w.heap.size _ _ rfl o0 _ rfl (by simp) (by omega) ?_; intro v1 w1 o1 b1)
  have z1 := b1.size
  rw [rounds_succ]
  go_wp2_with (at_builtin; refine append_byte _ rfl _ _ rfl w.heap.size _ _ rfl o1 _ rfl (by simp) (by omega) ?_; intro v2 w2 o2 b2)
  have z2 := b2.size
  rw [rounds_succ]
  go_wp2_with (at_builtin; refine append_byte _ rfl _ _ rfl w.heap.size _ _ rfl o2 _ rfl (by simp) (by omega) ?_; intro v3 w3 o3 b3)
  have z3 := b3.size
  rw [rounds_succ]
  go_wp2_with (at_builtin; refine append_byte _ rfl _ _ rfl w.heap.size _ _ rfl o3 _ rfl (by simp) (by omega) ?_; intro v4 w4 o4 b4)
  have z4 := b4.size
  rw [rounds_succ]
  go_wp2_with (at_builtin; refine append_byte _ rfl _ _ rfl w.heap.size _ _ rfl o4 _ rfl (by simp) (by omega) ?_; intro v5 w5 o5 b5)
  have z5 := b5.size
  rw [rounds_succ]
  go_wp2_with (at_builtin; refine append_byte _ rfl _ _ rfl w.heap.size _ _ rfl o5 _ rfl (by simp) (by omega) ?_; intro v6 w6 o6 b6)
  have z6 := b6.size
  rw [rounds_succ]
  go_wp2_with (at_builtin; refine append_byte _ rfl _ _ rfl w.heap.size _ _ rfl o6 _ rfl (by simp) (by omega) ?_; intro v7 w7 o7 b7)
  have z7 := b7.size
  rw [rounds_succ]
  go_wp2_with (at_builtin; refine append_byte _ rfl _ _ rfl w.heap.size _ _ rfl o7 _ rfl (by simp) (by omega) ?_; intro v8 w8 o8 b8)
  have z8 := b8.size
  have hcv := conv_own o8
  rw [rounds_succ]
  go_wp2_with fail
  go_ret
  exact ⟨rfl, ((((((((b0.trans b1).trans b2).trans b3).trans b4).trans b5).trans b6).trans b7).trans b8)⟩


theorem rnum_0 (n : Int) (h0 : 0 ≤ n) (h1 : n ≤ 247) (w : World) :
    Calls Try.prog 39 #[.int .u64 n] w fun e w' => e = .returned (.string (strOfNums [n])) ∧ Below w.heap.size w w' := by
  have hconv := fun W : World => conv_new W [.int .u8 n] [n] 0 rfl 1 rfl 5 1
  go_enter Try.func39, Try.ntmps39
  go_wp2
  go_ret
  exact ⟨rfl, (Below.refl _ _).alloc (Nat.le_refl _) _⟩
theorem ret_nums {a b : List Int} {e : Ending} (h : a = b) (he : e = .returned (.string (strOfNums a))) : e = .returned (.string (strOfNums b)) := by rw [he, h]
theorem rnum_any (n : Int) (h0 : 0 ≤ n) (h1 : n < 18446744073709551616) (w : World) :
    Calls Try.prog 39 #[.int .u64 n] w fun e w' => e = .returned (.string (numS n)) ∧ Below w.heap.size w w' := by
  unfold numS numI wid
  by_cases hn : n ≤ 247
  · rw [if_pos hn]; exact rnum_0 n h0 hn w
  rw [if_neg hn]
  by_cases g1 : n < 256
  · rw [if_pos g1]
    refine (rnum_1 n (by omega) (by omega) w).mono fun e w' ⟨he, hb⟩ => ⟨ret_nums ?_ he, hb⟩
    simp only [be, List.nil_append, List.cons.injEq, and_true]; omega
  by_cases g2 : n < 65536
  · rw [if_neg g1, if_pos g2]
    refine (rnum_2 n (by omega) (by omega) w).mono fun e w' ⟨he, hb⟩ => ⟨ret_nums ?_ he, hb⟩
    simp only [be, List.nil_append, List.cons_append, List.cons.injEq, and_true]; omega
  by_cases g3 : n < 16777216
  · rw [if_neg g1, if_neg g2, if_pos g3]
    refine (rnum_3 n (by omega) (by omega) w).mono fun e w' ⟨he, hb⟩ => ⟨ret_nums ?_ he, hb⟩
    simp only [be, List.nil_append, List.cons_append, List.cons.injEq, and_true]; omega
  by_cases g4 : n < 4294967296
  · rw [if_neg g1, if_neg g2, if_neg g3, if_pos g4]
    refine (rnum_4 n (by omega) (by omega) w).mono fun e w' ⟨he, hb⟩ => ⟨ret_nums ?_ he, hb⟩
    simp only [be, List.nil_append, List.cons_append, List.cons.injEq, and_true]; omega
  by_cases g5 : n < 1099511627776
  · rw [if_neg g1, if_neg g2, if_neg g3, if_neg g4, if_pos g5]
    refine (rnum_5 n (by omega) (by omega) w).mono fun e w' ⟨he, hb⟩ => ⟨ret_nums ?_ he, hb⟩
    simp only [be, List.nil_append, List.cons_append, List.cons.injEq, and_true]; omega
  by_cases g6 : n < 281474976710656
  · rw [if_neg g1, if_neg g2, if_neg g3, if_neg g4, if_neg g5, if_pos g6]
    refine (rnum_6 n (by omega) (by omega) w).mono fun e w' ⟨he, hb⟩ => ⟨ret_nums ?_ he, hb⟩
    simp only [be, List.nil_append, List.cons_append, List.cons.injEq, and_true]; omega
  by_cases g7 : n < 72057594037927936
  · rw [if_neg g1, if_neg g2, if_neg g3, if_neg g4, if_neg g5, if_neg g6, if_pos g7]
    refine (rnum_7 n (by omega) (by omega) w).mono fun e w' ⟨he, hb⟩ => ⟨ret_nums ?_ he, hb⟩
    simp only [be, List.nil_append, List.cons_append, List.cons.injEq, and_true]; omega
  rw [if_neg g1, if_neg g2, if_neg g3, if_neg g4, if_neg g5, if_neg g6, if_neg g7]
  refine (rnum_8 n (by omega) (by omega) w).mono fun e w' ⟨he, hb⟩ => ⟨ret_nums ?_ he, hb⟩
  simp only [be, List.nil_append, List.cons_append, List.cons.injEq, and_true]; omega

end Go.Proofs.Ythdkflmkcoabaaa.Bt
/-
  THE WALKS OF bits.Int, bits.Text, bits.Flag and the document's own: over Num's contracts.
-/
namespace Go.Proofs.Ythdkflmkcoabaaa.Bt
open Go.RowKit
theorem zig_lt {n : Int} (h0 : -9223372036854775808 ≤ n) (h1 : n ≤ 9223372036854775807) : ((Lib.zigzag n : Nat) : Int) < 18446744073709551616 := by
  have := Lib.zigzag_lt h0 h1; omega
theorem be_len (k : Nat) : ∀ n, (be k n).length = k := by
  induction k with
  | zero => intro n; rfl
  | succ k ih => intro n; simp [be, ih]
theorem wid_le (n : Int) : 1 ≤ wid n ∧ wid n ≤ 8 := by
  unfold wid
  repeat' split
  all_goals omega
theorem numS_size (n : Int) : (numS n).size ≤ 9 := by
  unfold numS numI
  rw [strOfNums_size]
  have := (wid_le n).2
  split
  · simp
  · rw [List.length_cons, be_len]; omega
def intS (n : Int) : ByteArray := numS ((Lib.zigzag n : Nat) : Int)
theorem int_any (n : Int) (h0 : -9223372036854775808 ≤ n) (h1 : n ≤ 9223372036854775807) (w : World) :
    Calls Try.prog 38 #[.int .i64 n] w fun e w' => e = .returned (.string (intS n)) ∧ Below w.heap.size w w' := by
  go_enter Try.func38, Try.ntmps38
  go_wp2_with fail
  refine (fold_any n h0 h1 _).mono ?_
  rintro e w1 ⟨rfl, rfl⟩
  go_wp2_with fail
  refine (num_any _ (Int.natCast_nonneg _) (zig_lt h0 h1) _).mono ?_
  rintro e w1 ⟨rfl, hb⟩
  go_wp2_with fail
  go_ret
  exact ⟨rfl, hb⟩
theorem rint_any (n : Int) (h0 : -9223372036854775808 ≤ n) (h1 : n ≤ 9223372036854775807) (w : World) :
    Calls Try.prog 40 #[.int .i64 n] w fun e w' => e = .returned (.string (intS n)) ∧ Below w.heap.size w w' := by
  by_cases hn : 0 ≤ n
  · have e1 : Hid (((Lib.zigzag n : Nat) : Int) = 2 * n) := by have := Lib.zigzag_nonneg hn; unfold Hid; omega
    go_enter Try.func40, Try.ntmps40
    go_wp2_with fail
    refine (rnum_any _ (by omega) (by omega) _).mono ?_
    rintro e w1 ⟨rfl, hb⟩
    go_wp2_with fail
    go_ret
    exact ⟨by unfold intS; rw [e1.out]; rfl, hb⟩
  · have e1 : Hid (((Lib.zigzag n : Nat) : Int) = 2 * (-(n + 1)) + 1) := by unfold Hid Lib.zigzag; rw [if_neg hn]; omega
    go_enter Try.func40, Try.ntmps40
    go_wp2_with fail
    refine (rnum_any _ (by omega) (by omega) _).mono ?_
    rintro e w1 ⟨rfl, hb⟩
    go_wp2_with fail
    go_ret
    exact ⟨by unfold intS; rw [e1.out]; rfl, hb⟩
/-- the bytes of a text -/
def textS (s : ByteArray) : ByteArray := numS (s.size : Int) ++ s
theorem text_any (s : ByteArray) (hs : s.size ≤ 9223372036854775798) (w : World) :
    Calls Try.prog 42 #[.string s] w fun e w' => e = .returned (.string (textS s)) ∧ Below w.heap.size w w' := by
  have hz := numS_size (s.size : Int)
  have hz2 : (numS (s.size : Int)).size + s.size ≤ 9223372036854775807 := by omega
  go_enter Try.func42, Try.ntmps42
  go_wp2_with fail
  refine (num_any _ (Int.natCast_nonneg _) (by omega) _).mono ?_
  rintro e w1 ⟨rfl, hb⟩
  go_wp2_with fail
  go_ret
  exact ⟨rfl, hb⟩
theorem rtext_any (s : ByteArray) (hs : s.size ≤ 9223372036854775798) (w : World) :
    Calls Try.prog 43 #[.string s] w fun e w' => e = .returned (.string (textS s)) ∧ Below w.heap.size w w' := by
  have hz := numS_size (s.size : Int)
  have hz2 : (numS (s.size : Int)).size + s.size ≤ 9223372036854775807 := by omega
  go_enter Try.func43, Try.ntmps43
  go_wp2_with fail
  refine (rnum_any _ (Int.natCast_nonneg _) (by omega) _).mono ?_
  rintro e w1 ⟨rfl, hb⟩
  go_wp2_with fail
  go_ret
  exact ⟨rfl, hb⟩
def flagS (b : Bool) : ByteArray := if b then ⟨#[1]⟩ else ⟨#[0]⟩
end Go.Proofs.Ythdkflmkcoabaaa.Bt
/-
  THE WALKS OF bits.join, least, unfold, number: what stands at the front of bytes.
-/
namespace Go.Proofs.Ythdkflmkcoabaaa.Bt
open Go.RowKit
/-- the number whose bytes a list has, the highest first -/
def joinN (l : List UInt8) : Nat := l.foldl (fun n b => n * 256 + b.toNat) 0
theorem joinN_snoc (l : List UInt8) (b : UInt8) : joinN (l ++ [b]) = joinN l * 256 + b.toNat := by
  unfold joinN; rw [List.foldl_append]; rfl
theorem joinN_aux (l : List UInt8) : ∀ a : Nat, l.foldl (fun n b => n * 256 + b.toNat) a < (a + 1) * 256 ^ l.length := by
  induction l with
  | nil => intro a; simp
  | cons b l ih =>
    intro a
    rw [List.foldl_cons, List.length_cons, Nat.pow_succ]
    have hb := b.toNat_lt
    refine Nat.lt_of_lt_of_le (ih _) ?_
    rw [Nat.mul_comm (256 ^ l.length), ← Nat.mul_assoc]
    exact Nat.mul_le_mul_right _ (by omega)
theorem joinN_lt (l : List UInt8) : joinN l < 256 ^ l.length := by
  have := joinN_aux l 0
  simpa [joinN] using this
theorem take_snoc (s : ByteArray) (k : Nat) (h : k < s.size) : s.data.toList.take (k + 1) = s.data.toList.take k ++ [s[k]] := by
  rw [List.take_succ_eq_append_getElem (by simpa using h)]; rfl
theorem or_join (n : Nat) (b : UInt8) (h : n < 72057594037927936) : bits .or .u64 ((n : Int) * 256) (b.toNat : Int) = ((n * 256 + b.toNat : Nat) : Int) := by
  have hb := b.toNat_lt
  have e : ((n : Int) * 256) = ((n * 256 : Nat) : Int) := by omega
  rw [e, u64_or_nat _ _ (by omega) (by omega), nat_join 8 (n * 256) b.toNat (by omega) (by omega)]
theorem u64_byte (b : UInt8) : IntKind.u64.wrap (b.toNat : Int) = (b.toNat : Int) := by
  have := b.toNat_lt
  exact IntWalk.u64_in _ ⟨by omega, by omega⟩
theorem ret_u64 {a b : Int} (h : a = b) : Ending.returned (.int .u64 a) = .returned (.int .u64 b) := by rw [h]
set_option maxHeartbeats 400000 in
theorem join_any (s : ByteArray) (hs : s.size ≤ 8) (w : World) :
    Calls Try.prog 99 #[.string s] w fun e w' => e = .returned (.int .u64 (joinN s.data.toList)) ∧ w = w' := by
  go_enter Try.func99, Try.ntmps99
  go_wp2
  go_loop [3, 7] (fun n i => ∃ k : Nat, k ≤ s.size ∧ i = .int .i64 k ∧ n = .int .u64 (joinN (s.data.toList.take k) : Nat)) (fun _ i => s.size - (intOf i).toNat)
  case atStart => exact ⟨0, Nat.zero_le _, rfl, rfl⟩
  case round =>
    obtain ⟨k, hk, rfl, rfl⟩ := hrel
    have hl : (s.data.toList.take k).length ≤ k := List.length_take_le _ _
    by_cases hlt : k < s.size
    · have hsn := joinN_snoc (s.data.toList.take k) s[k]
      have hts := take_snoc s k hlt
      have hb0 := joinN_lt (s.data.toList.take k)
      have hb : joinN (s.data.toList.take k) < 72057594037927936 := Nat.lt_of_lt_of_le hb0 (Nat.le_trans (Nat.pow_le_pow_right (by decide) (show (s.data.toList.take k).length ≤ 7 by omega)) (by decide))
      have H := Lib.hid (hts ▸ hsn)
      have ho := or_join (joinN (s.data.toList.take k)) s[k] hb
      clear hsn hts hb0
      have hbi : (joinN (s.data.toList.take k) : Int) < 72057594037927936 := by omega
      have hw := u64_byte s[k]
      go_wp2
      go_round
      case rel => exact ⟨k + 1, by omega, by go_num, by rw [H.out]; go_num⟩
      case measure => simp [intOf]; omega
    · go_wp2
      go_ret
      exact ⟨ret_u64 (by rw [List.take_of_length_le (by simp; omega)]), rfl⟩

/-- the least number that has k bytes behind the first one -/
def leastN (k : Nat) : Nat := if k ≤ 1 then 248 else 256 ^ (k - 1)
theorem least_any (k : Int) (h1 : 1 ≤ k) (h2 : k ≤ 8) (w : World) :
    Calls Try.prog 100 #[.int .i64 k] w fun e w' => e = .returned (.int .u64 (leastN k.toNat)) ∧ w = w' := by
  have hk : k = 1 ∨ k = 2 ∨ k = 3 ∨ k = 4 ∨ k = 5 ∨ k = 6 ∨ k = 7 ∨ k = 8 := by omega
  rcases hk with rfl | rfl | rfl | rfl | rfl | rfl | rfl | rfl
  all_goals
    go_enter Try.func100, Try.ntmps100
    go_wp2
    go_ret
    exact ⟨rfl, rfl⟩
def unz (n : Nat) : Int := if n % 2 = 0 then (n / 2 : Nat) else -((n / 2 : Nat) : Int) - 1
theorem i64_xor_m1 (x : Nat) (hx : x < 9223372036854775808) : bits .xor .i64 (x : Int) (-1) = -(x : Int) - 1 := by
  show IntKind.i64.wrap ((BitVec.ofInt 64 (x : Int) ^^^ BitVec.ofInt 64 (-1)).toNat : Int) = _
  rw [BitVec.xor_comm]
  exact Lib.i64_not x hx
theorem i64_xor_0 (x : Nat) (hx : x < 9223372036854775808) : bits .xor .i64 (x : Int) 0 = (x : Int) := by
  show IntKind.i64.wrap ((BitVec.ofInt 64 (x : Int) ^^^ BitVec.ofInt 64 0).toNat : Int) = _
  have h2 : (BitVec.ofInt 64 (x : Int)).toNat = x := by
    rw [BitVec.ofInt_natCast, BitVec.toNat_ofNat]; exact Nat.mod_eq_of_lt (by omega)
  rw [BitVec.toNat_xor, h2, show (BitVec.ofInt 64 0).toNat = 0 from by decide, Nat.xor_zero, IntKind.wrap_i64]
  omega
theorem ret_i64 {a b : Int} (h : a = b) : Ending.returned (.int .i64 a) = .returned (.int .i64 b) := by rw [h]
theorem unfold_any (n : Nat) (h1 : n < 18446744073709551616) (w : World) :
    Calls Try.prog 101 #[.int .u64 n] w fun e w' => e = .returned (.int .i64 (unz n)) ∧ w = w' := by
  have ha := Lib.u64_and1 (n : Int) (by omega) (by omega)
  by_cases hn : n % 2 = 0
  · have hn2 : (n : Int) % 2 = 0 := by omega
    go_enter Try.func101, Try.ntmps101
    go_wp2
    go_ret
    exact ⟨ret_i64 (by unfold unz; rw [if_pos hn]; exact i64_xor_0 (n / 2) (by omega)), rfl⟩
  · have hn2 : (n : Int) % 2 = 1 := by omega
    go_enter Try.func101, Try.ntmps101
    go_wp2
    go_ret
    exact ⟨ret_i64 (by unfold unz; rw [if_neg hn]; exact i64_xor_m1 (n / 2) (by omega)), rfl⟩

def rdNum : List UInt8 → Nat × Nat × Int
  | [] => (0, 0, 5)
  | b :: t => if b.toNat ≤ 247 then (b.toNat, 1, 0) else if t.length < b.toNat - 247 then (0, 0, 5) else
      if joinN (t.take (b.toNat - 247)) < leastN (b.toNat - 247) then (0, 0, 3) else (joinN (t.take (b.toNat - 247)), b.toNat - 247 + 1, 0)
theorem head_drop (s : ByteArray) (h : 0 < s.size) : s.data.toList = s[0] :: s.data.toList.drop 1 := by
  have hl : 0 < s.data.toList.length := by simpa using h
  exact List.drop_eq_getElem_cons (l := s.data.toList) (i := 0) hl
theorem ret_num {a b c d e : Int} (h : a = c) (h' : b = d) : Ending.returned (.tuple #[.int .u64 a, .int .i64 b, .int .i64 e]) = .returned (.tuple #[.int .u64 c, .int .i64 d, .int .i64 e]) := by rw [h, h']
set_option maxRecDepth 10000 in
set_option maxHeartbeats 400000 in
theorem number_any (s : ByteArray) (hs : s.size ≤ 9223372036854775807) (w : World) :
    Calls Try.prog 86 #[.string s] w fun e w' => e = .returned (.tuple #[.int .u64 (rdNum s.data.toList).1, .int .i64 (rdNum s.data.toList).2.1, .int .i64 (rdNum s.data.toList).2.2]) ∧ w = w' := by
  by_cases h0 : s.size = 0
  · have e0 : s = ⟨#[]⟩ := by
      apply ByteArray.ext
      exact Array.eq_empty_of_size_eq_zero h0
    subst e0
    go_enter Try.func86, Try.ntmps86
    go_wp2_with fail
    go_ret3
    exact ⟨rfl, rfl⟩
  have h1 : 0 < s.size := by omega
  have he := head_drop s h1
  have hne : s.toList.isEmpty = false := by
    rw [Lib.toList_data, he]; rfl
  have hb := s[0].toNat_lt
  have hbi : (s[0].toNat : Int) ≤ 255 := by omega
  have He := Lib.hid he
  clear he
  by_cases h2 : s[0].toNat ≤ 247
  · go_enter Try.func86, Try.ntmps86
    go_wp2_with fail
    go_ret3
    refine ⟨?_, rfl⟩
    rw [He.out]; simp only [rdNum, if_pos h2]; rfl
  by_cases h3 : s.size < s[0].toNat - 247 + 1
  · go_enter Try.func86, Try.ntmps86
    go_wp2_with fail
    go_ret3
    refine ⟨?_, rfl⟩
    rw [He.out]; simp only [rdNum, if_neg h2]; rw [if_pos (by simp; omega)]; rfl
  · go_enter Try.func86, Try.ntmps86
    go_wp2_with fail
    refine (join_any _ (by simp; omega) _).mono ?_
    rintro e w1 ⟨rfl, rfl⟩
    go_wp2_with fail
    refine (least_any _ (by omega) (by omega) _).mono ?_
    rintro e w1 ⟨rfl, rfl⟩
    generalize hJ : joinN (List.take (1 + s[0].toNat - 247 - 1) s.data.toList.tail) = J at *
    generalize hL : leastN (1 + (s[0].toNat : Int) - 247 - 1).toNat = L at *
    have HJ := Lib.hid hJ
    have HL := Lib.hid hL
    clear hJ hL
    have eJ : joinN ((s.data.toList.drop 1).take (s[0].toNat - 247)) = J := by
      rw [List.drop_one, ← HJ.out, show 1 + s[0].toNat - 247 - 1 = s[0].toNat - 247 from by omega]
    have eL : leastN (s[0].toNat - 247) = L := by
      rw [← HL.out, show (1 + (s[0].toNat : Int) - 247 - 1).toNat = s[0].toNat - 247 from by omega]
    have EJ := Lib.hid eJ
    have EL := Lib.hid eL
    clear eJ eL
    by_cases hlt : J < L
    · have hlt' : (J : Int) < (L : Int) := by omega
      go_wp2_with fail
      go_ret3
      refine ⟨?_, rfl⟩
      rw [He.out]; simp only [rdNum, if_neg h2]
      rw [if_neg (by simp; omega), EJ.out, EL.out, if_pos hlt]; rfl
    · have hlt' : ¬ (J : Int) < (L : Int) := by omega
      go_wp2_with fail
      go_ret3
      refine ⟨?_, rfl⟩
      rw [He.out]; simp only [rdNum, if_neg h2]
      rw [if_neg (by simp; omega), EJ.out, EL.out, if_neg hlt]
      refine ret_num rfl ?_
      show (1 + (s[0].toNat : Int) - 247) = ((s[0].toNat - 247 + 1 : Nat) : Int)
      omega
end Go.Proofs.Ythdkflmkcoabaaa.Bt
/-
  THE WALK OF bits.text: the text of at most so many bytes at the front of bytes.
-/
namespace Go.Proofs.Ythdkflmkcoabaaa.Bt
open Go.RowKit
theorem clone_any (s : ByteArray) (w : World) (hs : s.size ≤ 281474976710656) :
    Calls Try.prog 83 #[.string s] w fun e w' => e = .returned (.string s) ∧ Below w.heap.size w w' := by
  exact str_clone s w hs
theorem joinN_u64 (l : List UInt8) (h : l.length ≤ 8) : joinN l < 18446744073709551616 :=
  Nat.lt_of_lt_of_le (joinN_lt l) (Nat.le_trans (Nat.pow_le_pow_right (by decide) h) (by decide))
/-- what is read of a number lies in the bytes -/
theorem rdNum_facts (l : List UInt8) : (rdNum l).1 < 18446744073709551616 ∧ (rdNum l).2.1 ≤ l.length ∧ ((rdNum l).2.2 = 0 ∨ ((rdNum l).2.2 = 5 ∧ (rdNum l).1 = 0 ∧ (rdNum l).2.1 = 0) ∨ ((rdNum l).2.2 = 3 ∧ (rdNum l).1 = 0 ∧ (rdNum l).2.1 = 0)) := by
  match l with
  | [] => simp [rdNum]
  | b :: t =>
    have hb := b.toNat_lt
    simp only [rdNum]
    split
    · simp; omega
    · split
      · simp
      · split
        · simp
        · have hj := joinN_u64 (t.take (b.toNat - 247)) (by rw [List.length_take]; omega)
          simp only [true_or, and_true, List.length_cons]
          exact ⟨hj, by omega⟩
/-- the text of at most so many bytes at the front of s -/
def rdText (s : ByteArray) (most : Int) : ByteArray × Nat × Int :=
  if (rdNum s.data.toList).2.2 ≠ 0 then (⟨#[]⟩, 0, (rdNum s.data.toList).2.2)
  else if max most 0 < ((rdNum s.data.toList).1 : Int) then (⟨#[]⟩, 0, 2)
  else if s.size - (rdNum s.data.toList).2.1 < (rdNum s.data.toList).1 then (⟨#[]⟩, 0, 5)
  else (s.extract (rdNum s.data.toList).2.1 ((rdNum s.data.toList).2.1 + (rdNum s.data.toList).1), (rdNum s.data.toList).2.1 + (rdNum s.data.toList).1, 0)
/-- what rtxt says of a read number -/
theorem rdText_eq (s : ByteArray) (most : Int) {N K : Nat} {E : Int} (h : rdNum s.data.toList = (N, K, E)) :
    rdText s most = if E ≠ 0 then (⟨#[]⟩, 0, E) else if max most 0 < (N : Int) then (⟨#[]⟩, 0, 2) else if s.size - K < N then (⟨#[]⟩, 0, 5) else (s.extract K (K + N), K + N, 0) := by
  unfold rdText; rw [h]
def txtR (x : ByteArray × Nat × Int) : Value := .tuple #[.string x.1, .int .i64 x.2.1, .int .i64 x.2.2]
theorem ret_txt {x : ByteArray × Nat × Int} {a : ByteArray} {b c : Int} {k : Nat} (h : x = (a, k, c)) (hb : b = k) : Ending.returned (.tuple #[.string a, .int .i64 b, .int .i64 c]) = .returned (txtR x) := by
  subst h; subst hb; rfl
set_option maxRecDepth 10000 in
set_option maxHeartbeats 400000 in
theorem rdtext_any (s : ByteArray) (hs : s.size ≤ 281474976710656) (most : Int) (h0 : -9223372036854775808 ≤ most) (h1 : most ≤ 9223372036854775807) (w : World) :
    Calls Try.prog 91 #[.string s, .int .i64 most] w fun e w' => e = .returned (txtR (rdText s most)) ∧ Below w.heap.size w w' := by
  have hf := rdNum_facts s.data.toList
  rw [← Lib.size_eq] at hf
  have hnum := fun W => number_any s (by omega) W
  rcases hR : rdNum s.data.toList with ⟨N, K, E⟩
  have HT := Lib.hid (rdText_eq s most hR)
  rw [hR] at hf hnum
  clear hR
  simp only at hf hnum
  have Hnum := Lib.hid hnum
  clear hnum
  obtain ⟨f1, f2, f3⟩ := hf
  by_cases hE : E = 0
  · subst hE
    clear f3
    by_cases h2 : max most 0 < (N : Int)
    · have HT2 := HT.out
      rw [if_neg (by simp), if_pos h2] at HT2
      have HT3 := Lib.hid HT2
      clear HT2 HT
      go_enter Try.func91, Try.ntmps91
      go_wp2_with fail
      refine (Hnum.out _).mono ?_
      rintro e w1 ⟨rfl, rfl⟩
      go_wp2_with fail
      all_goals
        go_ret3
        exact ⟨ret_txt HT3.out rfl, Below.refl _ _⟩
    by_cases h3 : s.size - K < N
    · have HT2 := HT.out
      rw [if_neg (by simp), if_neg h2, if_pos h3] at HT2
      have HT3 := Lib.hid HT2
      clear HT2 HT
      go_enter Try.func91, Try.ntmps91
      go_wp2_with fail
      refine (Hnum.out _).mono ?_
      rintro e w1 ⟨rfl, rfl⟩
      go_wp2_with fail
      all_goals
        go_ret3
        exact ⟨ret_txt HT3.out rfl, Below.refl _ _⟩
    · have HT2 := HT.out
      rw [if_neg (by simp), if_neg h2, if_neg h3] at HT2
      have HT3 := Lib.hid HT2
      clear HT2 HT
      go_enter Try.func91, Try.ntmps91
      go_wp2_with fail
      refine (Hnum.out _).mono ?_
      rintro e w1 ⟨rfl, rfl⟩
      go_wp2_with fail
      all_goals
        refine (clone_any _ _ (by simp; omega)).mono ?_
        rintro e w2 ⟨rfl, hb⟩
        go_wp2_with fail
        go_ret3
        exact ⟨ret_txt HT3.out (by omega), hb⟩
  · have HT2 := HT.out
    rw [if_pos hE] at HT2
    have HT3 := Lib.hid HT2
    clear HT2 HT
    have hEb : (E != 0) = true := by simp [hE]
    go_enter Try.func91, Try.ntmps91
    go_wp2_with fail
    refine (Hnum.out _).mono ?_
    rintro e w1 ⟨rfl, rfl⟩
    go_wp2_with fail
    go_ret3
    exact ⟨ret_txt HT3.out rfl, Below.refl _ _⟩
end Go.Proofs.Ythdkflmkcoabaaa.Bt
/-
  A TAPE IN MEMORY, AND THE WALKS OF At, Rest, Err, End.
-/
namespace Go.Proofs.Ythdkflmkcoabaaa.Bt
open Go.RowKit
/-- the tape in block b: what is left, and the error -/
def TapeAt (w : World) (b : Nat) (s : ByteArray) (e : Int) : Prop := w.heap[b]? = some (.cells #[.string s, .int .i64 e] 133 (0, 0))
theorem TapeAt.lt {w : World} {b : Nat} {s : ByteArray} {e : Int} (h : TapeAt w b s e) : b < w.heap.size := by
  unfold TapeAt at h
  rcases Nat.lt_or_ge b w.heap.size with h' | h'
  · exact h'
  · rw [Array.getElem?_eq_none h'] at h; simp at h
theorem TapeAt.c0 {w : World} {b : Nat} {s : ByteArray} {e : Int} (h : TapeAt w b s e) : w.cell? ⟨b, 0, none⟩ = some (.string s) := by
  unfold TapeAt at h; simp [World.cell?, h]
theorem TapeAt.c1 {w : World} {b : Nat} {s : ByteArray} {e : Int} (h : TapeAt w b s e) : w.cell? ⟨b, 1, none⟩ = some (.int .i64 e) := by
  unfold TapeAt at h; simp [World.cell?, h]
theorem TapeAt.f {w : World} {b : Nat} {s : ByteArray} {e : Int} (h : TapeAt w b s e) (o : Nat) : w.frozen? ⟨b, o, none⟩ = false := by
  unfold TapeAt at h; simp [World.frozen?, h]
theorem TapeAt.below {w w' : World} {b B : Nat} {s : ByteArray} {e : Int} (h : TapeAt w b s e) (hb : Below B w w') (hB : b < B) : TapeAt w' b s e := by
  unfold TapeAt at *; rw [hb.block b hB]; exact h
theorem TapeAt.next {w w' : World} {b : Nat} {s : ByteArray} {e : Int} (h : TapeAt w b s e) (hb : Below w.heap.size w w') : TapeAt w' b s e := h.below hb h.lt
theorem TapeAt.set0 {w : World} {b : Nat} {s s' : ByteArray} {e : Int} (h : TapeAt w b s e) : TapeAt (w.setCell ⟨b, 0, none⟩ (.string s')) b s' e := by
  unfold TapeAt at *
  simp [World.setCell, Array.getElem?_modify, h]
theorem TapeAt.set1 {w : World} {b : Nat} {s : ByteArray} {e e' : Int} (h : TapeAt w b s e) : TapeAt (w.setCell ⟨b, 1, none⟩ (.int .i64 e')) b s e' := by
  unfold TapeAt at *
  simp [World.setCell, Array.getElem?_modify, h]
theorem grownBy_below {w w' : World} (h : Below w.heap.size w w') (r : Option Nat) : w.grownBy w' r := ⟨h.os, h.tape, h.output, h.size, fun k hk _ => h.block k hk⟩
theorem grownBy_set {w w' : World} (h : Below w.heap.size w w') (b o : Nat) (v : Value) : w.grownBy (w'.setCell ⟨b, o, none⟩ v) (some b) :=
  ⟨h.os, h.tape, h.output, by rw [World.size_setCell]; exact h.size, fun k hk hne => by rw [Below.heap_setCell _ _ _ _ (fun e => hne (by rw [e]))]; exact h.block k hk⟩
theorem err_any {w : World} {b : Nat} {s : ByteArray} {e : Int} (h : TapeAt w b s e) :
    Calls Try.prog 84 #[.pointer (some ⟨b, 0, none⟩)] w fun r w' => r = .returned (.int .i64 e) ∧ w = w' := by
  have h1 := h.c1
  go_enter Try.func84, Try.ntmps84
  go_wp2_with fail
  go_ret
  exact ⟨rfl, rfl⟩
theorem err_nil (w : World) : Calls Try.prog 84 #[.pointer none] w fun r w' => r = .returned (.int .i64 1) ∧ w = w' := by
  go_enter Try.func84, Try.ntmps84
  go_wp2_with fail
  go_ret
  exact ⟨rfl, rfl⟩
theorem end_nil (w : World) : Calls Try.prog 66 #[.pointer none] w fun r w' => r = .returned (.int .i64 1) ∧ w = w' := by
  go_enter Try.func66, Try.ntmps66
  go_wp2_with fail
  refine (err_nil _).mono ?_
  rintro e w1 ⟨rfl, rfl⟩
  go_wp2_with fail
  go_ret
  exact ⟨rfl, rfl⟩
/-- the error behind the end -/
def endE (s : ByteArray) (e : Int) : Int := if e ≠ 0 then e else if s.size = 0 then 0 else 3
theorem end_any {w : World} {b : Nat} {s : ByteArray} {e : Int} (h : TapeAt w b s e) :
    Calls Try.prog 66 #[.pointer (some ⟨b, 0, none⟩)] w fun r w' => r = .returned (.int .i64 (endE s e)) ∧ w = w' := by
  have h0 := h.c0
  by_cases he : e = 0
  · subst he
    by_cases hs : s.size = 0
    · have e0 : s = ⟨#[]⟩ := by
        apply ByteArray.ext
        exact Array.eq_empty_of_size_eq_zero hs
      subst e0
      go_enter Try.func66, Try.ntmps66
      go_wp2_with fail
      refine (err_any h).mono ?_
      rintro r w1 ⟨rfl, rfl⟩
      go_wp2_with fail
      go_ret
      exact ⟨rfl, rfl⟩
    · have hne : s.toList.isEmpty = false := by
        rw [Lib.toList_data, head_drop s (by omega)]; rfl
      have hne2 : (!s.toList.isEmpty) = true := by rw [hne]; rfl
      go_enter Try.func66, Try.ntmps66
      go_wp2_with fail
      refine (err_any h).mono ?_
      rintro r w1 ⟨rfl, rfl⟩
      go_wp2_with fail
      go_ret
      exact ⟨ret_i64 (by unfold endE; rw [if_neg (by simp), if_neg hs]), rfl⟩
  · have hEb : (e != 0) = true := by simp [he]
    go_enter Try.func66, Try.ntmps66
    go_wp2_with fail
    refine (err_any h).mono ?_
    rintro r w1 ⟨rfl, rfl⟩
    go_wp2_with fail
    go_ret
    exact ⟨ret_i64 (by unfold endE; rw [if_pos he]), rfl⟩
theorem at_any (s : ByteArray) (w : World) (hs : s.size ≤ 281474976710656) :
    Calls Try.prog 65 #[.string s] w fun r w' => ∃ b, r = .returned (.pointer (some ⟨b, 0, none⟩)) ∧ w.heap.size ≤ b ∧ TapeAt w' b s 0 ∧ Below w.heap.size w w' := by
  go_enter Try.func65, Try.ntmps65
  go_wp2_with fail
  refine (clone_any _ _ hs).mono ?_
  rintro r w1 ⟨rfl, hb⟩
  go_wp2_with fail
  go_ret
  refine ⟨w1.heap.size, rfl, hb.size, ?_, hb.alloc hb.size _⟩
  unfold TapeAt
  exact heap_alloc_new _ _
end Go.Proofs.Ythdkflmkcoabaaa.Bt
/-
  THE WALKS OF bits.take at its five instances: a call that reads at the tape's place, goes behind it, or notes an error and stays.
-/
namespace Go.Proofs.Ythdkflmkcoabaaa.Bt
open Go.RowKit


set_option maxHeartbeats 400000 in
theorem takeNum_ok {w : World} {b : Nat} {s : ByteArray} (n : Nat) (k : Nat) (h : TapeAt w b s 0) (hk : k ≤ s.size)
    (hhow : Hid (Calls Try.prog 86 #[.string s] w fun e w' => e = .returned (.tuple #[.int .u64 (n : Int), .int .i64 (k : Int), .int .i64 0]) ∧ Below w.heap.size w w')) :
    Calls Try.prog 85 #[.pointer (some ⟨b, 0, none⟩), .func (.func 86) #[] #[]] w fun r w' => r = .returned (.int .u64 (n : Int)) ∧ w.grownBy w' (some b) ∧ TapeAt w' b (s.extract k s.size) 0 := by
  have g0 := h.c0
  go_enter Try.func85, Try.ntmps85
  go_wp2_with fail
  refine (err_any h).mono ?_
  rintro r w1 ⟨rfl, rfl⟩
  go_wp2_with fail
  refine hhow.out.mono ?_
  rintro r w1 ⟨rfl, hb⟩
  have h' := h.next hb
  have g0' := h'.c0
  have gf := h'.f 0
  go_wp2_with fail
  go_ret
  exact ⟨rfl, grownBy_set hb _ _ _, h'.set0⟩
set_option maxHeartbeats 400000 in
theorem takeNum_bad {w : World} {b : Nat} {s : ByteArray} (n : Nat) (k e : Int) (h : TapeAt w b s 0) (he : e ≠ 0)
    (hhow : Hid (Calls Try.prog 86 #[.string s] w fun r w' => r = .returned (.tuple #[.int .u64 (n : Int), .int .i64 k, .int .i64 e]) ∧ Below w.heap.size w w')) :
    Calls Try.prog 85 #[.pointer (some ⟨b, 0, none⟩), .func (.func 86) #[] #[]] w fun r w' => r = .returned (.int .u64 0) ∧ w.grownBy w' (some b) ∧ TapeAt w' b s e := by
  have g0 := h.c0
  have hEb : (e != 0) = true := by simp [he]
  go_enter Try.func85, Try.ntmps85
  go_wp2_with fail
  refine (err_any h).mono ?_
  rintro r w1 ⟨rfl, rfl⟩
  go_wp2_with fail
  refine hhow.out.mono ?_
  rintro r w1 ⟨rfl, hb⟩
  have h' := h.next hb
  have g1' := h'.c1
  have gf := h'.f 1
  go_wp2_with fail
  go_ret
  exact ⟨rfl, grownBy_set hb _ _ _, h'.set1⟩
set_option maxHeartbeats 400000 in
theorem takeNum_stays {w : World} {b : Nat} {s : ByteArray} {e : Int} (fv : Value) (h : TapeAt w b s e) (he : e ≠ 0) :
    Calls Try.prog 85 #[.pointer (some ⟨b, 0, none⟩), fv] w fun r w' => r = .returned (.int .u64 0) ∧ w = w' := by
  have hEb : (e != 0) = true := by simp [he]
  go_enter Try.func85, Try.ntmps85
  go_wp2_with fail
  refine (err_any h).mono ?_
  rintro r w1 ⟨rfl, rfl⟩
  go_wp2_with fail
  go_ret
  exact ⟨rfl, rfl⟩
set_option maxHeartbeats 400000 in
theorem takeNum_nil (w : World) (fv : Value) :
    Calls Try.prog 85 #[.pointer none, fv] w fun r w' => r = .returned (.int .u64 0) ∧ w = w' := by
  go_enter Try.func85, Try.ntmps85
  go_wp2_with fail
  refine (err_nil _).mono ?_
  rintro r w1 ⟨rfl, rfl⟩
  go_wp2_with fail
  go_ret
  exact ⟨rfl, rfl⟩


set_option maxHeartbeats 400000 in
theorem takeInt_ok {w : World} {b : Nat} {s : ByteArray} (n : Int) (k : Nat) (h : TapeAt w b s 0) (hk : k ≤ s.size)
    (hhow : Hid (Calls Try.prog 88 #[.string s] w fun e w' => e = .returned (.tuple #[.int .i64 n, .int .i64 (k : Int), .int .i64 0]) ∧ Below w.heap.size w w')) :
    Calls Try.prog 87 #[.pointer (some ⟨b, 0, none⟩), .func (.func 88) #[] #[]] w fun r w' => r = .returned (.int .i64 n) ∧ w.grownBy w' (some b) ∧ TapeAt w' b (s.extract k s.size) 0 := by
  have g0 := h.c0
  go_enter Try.func87, Try.ntmps87
  go_wp2_with fail
  refine (err_any h).mono ?_
  rintro r w1 ⟨rfl, rfl⟩
  go_wp2_with fail
  refine hhow.out.mono ?_
  rintro r w1 ⟨rfl, hb⟩
  have h' := h.next hb
  have g0' := h'.c0
  have gf := h'.f 0
  go_wp2_with fail
  go_ret
  exact ⟨rfl, grownBy_set hb _ _ _, h'.set0⟩
set_option maxHeartbeats 400000 in
theorem takeInt_bad {w : World} {b : Nat} {s : ByteArray} (n : Int) (k e : Int) (h : TapeAt w b s 0) (he : e ≠ 0)
    (hhow : Hid (Calls Try.prog 88 #[.string s] w fun r w' => r = .returned (.tuple #[.int .i64 n, .int .i64 k, .int .i64 e]) ∧ Below w.heap.size w w')) :
    Calls Try.prog 87 #[.pointer (some ⟨b, 0, none⟩), .func (.func 88) #[] #[]] w fun r w' => r = .returned (.int .i64 0) ∧ w.grownBy w' (some b) ∧ TapeAt w' b s e := by
  have g0 := h.c0
  have hEb : (e != 0) = true := by simp [he]
  go_enter Try.func87, Try.ntmps87
  go_wp2_with fail
  refine (err_any h).mono ?_
  rintro r w1 ⟨rfl, rfl⟩
  go_wp2_with fail
  refine hhow.out.mono ?_
  rintro r w1 ⟨rfl, hb⟩
  have h' := h.next hb
  have g1' := h'.c1
  have gf := h'.f 1
  go_wp2_with fail
  go_ret
  exact ⟨rfl, grownBy_set hb _ _ _, h'.set1⟩
set_option maxHeartbeats 400000 in
theorem takeInt_stays {w : World} {b : Nat} {s : ByteArray} {e : Int} (fv : Value) (h : TapeAt w b s e) (he : e ≠ 0) :
    Calls Try.prog 87 #[.pointer (some ⟨b, 0, none⟩), fv] w fun r w' => r = .returned (.int .i64 0) ∧ w = w' := by
  have hEb : (e != 0) = true := by simp [he]
  go_enter Try.func87, Try.ntmps87
  go_wp2_with fail
  refine (err_any h).mono ?_
  rintro r w1 ⟨rfl, rfl⟩
  go_wp2_with fail
  go_ret
  exact ⟨rfl, rfl⟩
set_option maxHeartbeats 400000 in
theorem takeInt_nil (w : World) (fv : Value) :
    Calls Try.prog 87 #[.pointer none, fv] w fun r w' => r = .returned (.int .i64 0) ∧ w = w' := by
  go_enter Try.func87, Try.ntmps87
  go_wp2_with fail
  refine (err_nil _).mono ?_
  rintro r w1 ⟨rfl, rfl⟩
  go_wp2_with fail
  go_ret
  exact ⟨rfl, rfl⟩


set_option maxHeartbeats 400000 in
theorem takeText_ok {w : World} {b : Nat} {s : ByteArray} {m : Addr} (n : ByteArray) (k : Nat) (h : TapeAt w b s 0) (hk : k ≤ s.size)
    (hhow : Hid (Calls Try.prog 90 #[.string s, .pointer (some m)] w fun e w' => e = .returned (.tuple #[.string n, .int .i64 (k : Int), .int .i64 0]) ∧ Below w.heap.size w w')) :
    Calls Try.prog 89 #[.pointer (some ⟨b, 0, none⟩), .func (.func 90) #[] #[.pointer (some m)]] w fun r w' => r = .returned (.string n) ∧ w.grownBy w' (some b) ∧ TapeAt w' b (s.extract k s.size) 0 := by
  have g0 := h.c0
  go_enter Try.func89, Try.ntmps89
  go_wp2_with fail
  refine (err_any h).mono ?_
  rintro r w1 ⟨rfl, rfl⟩
  go_wp2_with fail
  refine hhow.out.mono ?_
  rintro r w1 ⟨rfl, hb⟩
  have h' := h.next hb
  have g0' := h'.c0
  have gf := h'.f 0
  go_wp2_with fail
  go_ret
  exact ⟨rfl, grownBy_set hb _ _ _, h'.set0⟩
set_option maxHeartbeats 400000 in
theorem takeText_bad {w : World} {b : Nat} {s : ByteArray} {m : Addr} (n : ByteArray) (k e : Int) (h : TapeAt w b s 0) (he : e ≠ 0)
    (hhow : Hid (Calls Try.prog 90 #[.string s, .pointer (some m)] w fun r w' => r = .returned (.tuple #[.string n, .int .i64 k, .int .i64 e]) ∧ Below w.heap.size w w')) :
    Calls Try.prog 89 #[.pointer (some ⟨b, 0, none⟩), .func (.func 90) #[] #[.pointer (some m)]] w fun r w' => r = .returned (.string ⟨#[]⟩) ∧ w.grownBy w' (some b) ∧ TapeAt w' b s e := by
  have g0 := h.c0
  have hEb : (e != 0) = true := by simp [he]
  go_enter Try.func89, Try.ntmps89
  go_wp2_with fail
  refine (err_any h).mono ?_
  rintro r w1 ⟨rfl, rfl⟩
  go_wp2_with fail
  refine hhow.out.mono ?_
  rintro r w1 ⟨rfl, hb⟩
  have h' := h.next hb
  have g1' := h'.c1
  have gf := h'.f 1
  go_wp2_with fail
  go_ret
  exact ⟨rfl, grownBy_set hb _ _ _, h'.set1⟩
set_option maxHeartbeats 400000 in
theorem takeText_stays {w : World} {b : Nat} {s : ByteArray} {e : Int} (fv : Value) (h : TapeAt w b s e) (he : e ≠ 0) :
    Calls Try.prog 89 #[.pointer (some ⟨b, 0, none⟩), fv] w fun r w' => r = .returned (.string ⟨#[]⟩) ∧ w = w' := by
  have hEb : (e != 0) = true := by simp [he]
  go_enter Try.func89, Try.ntmps89
  go_wp2_with fail
  refine (err_any h).mono ?_
  rintro r w1 ⟨rfl, rfl⟩
  go_wp2_with fail
  go_ret
  exact ⟨rfl, rfl⟩
set_option maxHeartbeats 400000 in
theorem takeText_nil (w : World) (fv : Value) :
    Calls Try.prog 89 #[.pointer none, fv] w fun r w' => r = .returned (.string ⟨#[]⟩) ∧ w = w' := by
  go_enter Try.func89, Try.ntmps89
  go_wp2_with fail
  refine (err_nil _).mono ?_
  rintro r w1 ⟨rfl, rfl⟩
  go_wp2_with fail
  go_ret
  exact ⟨rfl, rfl⟩


end Go.Proofs.Ythdkflmkcoabaaa.Bt
/-
  THE WALKS OF bits.whole, float, flag, AND OF THE TAPE'S FIVE READING CALLS.
-/
namespace Go.Proofs.Ythdkflmkcoabaaa.Bt
open Go.RowKit
/-- a whole number at the front -/
def rdInt (l : List UInt8) : Int × Nat × Int := (unz (rdNum l).1, (rdNum l).2.1, (rdNum l).2.2)
theorem whole_any (s : ByteArray) (hs : s.size ≤ 9223372036854775807) (w : World) :
    Calls Try.prog 88 #[.string s] w fun e w' => e = .returned (.tuple #[.int .i64 (rdInt s.data.toList).1, .int .i64 (rdInt s.data.toList).2.1, .int .i64 (rdInt s.data.toList).2.2]) ∧ w = w' := by
  unfold rdInt
  have hf := (rdNum_facts s.data.toList).1
  have H := Lib.hid (fun w => number_any s hs w)
  generalize rdNum s.data.toList = R at *
  obtain ⟨N, K, E⟩ := R
  go_enter Try.func88, Try.ntmps88
  go_wp2_with fail
  refine (H.out _).mono ?_
  rintro e w1 ⟨rfl, rfl⟩
  go_wp2_with fail
  refine (unfold_any N hf _).mono ?_
  rintro e w1 ⟨rfl, rfl⟩
  go_wp2_with fail
  go_ret3
  exact ⟨rfl, rfl⟩
/-- what a call of a tape answers, what is left, and the error: r is what stands at the front -/
def tk {α : Type} (z : α) (s : ByteArray) (e : Int) (r : α × Nat × Int) : α × ByteArray × Int :=
  if e ≠ 0 then (z, s, e) else if r.2.2 ≠ 0 then (z, s, r.2.2) else (r.1, s.extract r.2.1 s.size, 0)
theorem tk_stays {α : Type} (z : α) (s : ByteArray) {e : Int} (r : α × Nat × Int) (he : e ≠ 0) : tk z s e r = (z, s, e) := by unfold tk; rw [if_pos he]
theorem tk_bad {α : Type} (z : α) (s : ByteArray) (v : α) (k : Nat) {e : Int} (he : e ≠ 0) : tk z s 0 (v, k, e) = (z, s, e) := by unfold tk; rw [if_neg (by simp), if_pos he]
theorem tk_ok {α : Type} (z : α) (s : ByteArray) (v : α) (k : Nat) : tk z s 0 (v, k, 0) = (v, s.extract k s.size, 0) := by unfold tk; rw [if_neg (by simp), if_neg (by simp)]
theorem grownBy_refl (w : World) (r : Option Nat) : w.grownBy w r := ⟨rfl, rfl, rfl, Nat.le_refl _, fun _ _ _ => rfl⟩
theorem rdInt_le (s : ByteArray) : (rdInt s.data.toList).2.1 ≤ s.size := by
  have := (rdNum_facts s.data.toList).2.1
  rw [← Lib.size_eq] at this; exact this
theorem rdNum_le (s : ByteArray) : (rdNum s.data.toList).2.1 ≤ s.size := by
  have := (rdNum_facts s.data.toList).2.1
  rw [← Lib.size_eq] at this; exact this
/-- the value that a tape's Num answers -/
def vNum (x : Nat × ByteArray × Int) : Value := .int .u64 (x.1 : Int)
/-- what a tape's Num makes of it -/
def tNum (s : ByteArray) (e : Int) : Nat × ByteArray × Int := tk 0 s e (rdNum s.data.toList)
theorem tapeNum_core {w : World} {b : Nat} {s : ByteArray} {e : Int} (h : TapeAt w b s e) (hs : s.size ≤ 281474976710656) :
    Calls Try.prog 85 #[.pointer (some ⟨b, 0, none⟩), .func (.func 86) #[] #[]] w fun r w' => r = .returned (vNum (tNum s e)) ∧ w.grownBy w' (some b) ∧ TapeAt w' b (tNum s e).2.1 (tNum s e).2.2 := by
  unfold tNum
  by_cases he : e = 0
  · subst he
    have hf := rdNum_le s
    have hnum := number_any s (by omega) w
    rcases hR : rdNum s.data.toList with ⟨v, k, e⟩
    rw [hR] at hf hnum
    by_cases he : e = 0
    · subst he
      rw [tk_ok]
      exact takeNum_ok v k h hf (hnum.mono fun r w' ⟨hr, hw⟩ => ⟨hr, hw ▸ Below.refl _ _⟩)
    · rw [tk_bad _ _ _ _ he]
      exact takeNum_bad v k e h he (hnum.mono fun r w' ⟨hr, hw⟩ => ⟨hr, hw ▸ Below.refl _ _⟩)
  · rw [tk_stays _ _ _ he]
    exact (takeNum_stays _ h he).mono fun r w' ⟨hr, hw⟩ => ⟨hr, hw ▸ grownBy_refl _ _, hw ▸ h⟩
theorem tapeNum_any {w : World} {b : Nat} {s : ByteArray} {e : Int} (h : TapeAt w b s e) (hs : s.size ≤ 281474976710656) :
    Calls Try.prog 67 #[.pointer (some ⟨b, 0, none⟩)] w fun r w' => r = .returned (vNum (tNum s e)) ∧ w.grownBy w' (some b) ∧ TapeAt w' b (tNum s e).2.1 (tNum s e).2.2 := by
  have H := Lib.hid (tapeNum_core h hs)
  go_enter Try.func67, Try.ntmps67
  go_wp2_with fail
  refine H.out.mono ?_
  rintro r w1 ⟨rfl, hb⟩
  go_wp2_with fail
  go_ret
  exact ⟨rfl, hb⟩
theorem tapeNum_nil (w : World) : Calls Try.prog 67 #[.pointer none] w fun r w' => r = .returned (.int .u64 0) ∧ w = w' := by
  go_enter Try.func67, Try.ntmps67
  go_wp2_with fail
  refine (takeNum_nil _ _).mono ?_
  rintro r w1 ⟨rfl, rfl⟩
  go_wp2_with fail
  go_ret
  exact ⟨rfl, rfl⟩

/-- the value that a tape's Int answers -/
def vInt (x : Int × ByteArray × Int) : Value := .int .i64 x.1
/-- what a tape's Int makes of it -/
def tInt (s : ByteArray) (e : Int) : Int × ByteArray × Int := tk 0 s e (rdInt s.data.toList)
theorem tapeInt_core {w : World} {b : Nat} {s : ByteArray} {e : Int} (h : TapeAt w b s e) (hs : s.size ≤ 281474976710656) :
    Calls Try.prog 87 #[.pointer (some ⟨b, 0, none⟩), .func (.func 88) #[] #[]] w fun r w' => r = .returned (vInt (tInt s e)) ∧ w.grownBy w' (some b) ∧ TapeAt w' b (tInt s e).2.1 (tInt s e).2.2 := by
  unfold tInt
  by_cases he : e = 0
  · subst he
    have hf := rdInt_le s
    have hnum := whole_any s (by omega) w
    rcases hR : rdInt s.data.toList with ⟨v, k, e⟩
    rw [hR] at hf hnum
    by_cases he : e = 0
    · subst he
      rw [tk_ok]
      exact takeInt_ok v k h hf (hnum.mono fun r w' ⟨hr, hw⟩ => ⟨hr, hw ▸ Below.refl _ _⟩)
    · rw [tk_bad _ _ _ _ he]
      exact takeInt_bad v k e h he (hnum.mono fun r w' ⟨hr, hw⟩ => ⟨hr, hw ▸ Below.refl _ _⟩)
  · rw [tk_stays _ _ _ he]
    exact (takeInt_stays _ h he).mono fun r w' ⟨hr, hw⟩ => ⟨hr, hw ▸ grownBy_refl _ _, hw ▸ h⟩
theorem tapeInt_any {w : World} {b : Nat} {s : ByteArray} {e : Int} (h : TapeAt w b s e) (hs : s.size ≤ 281474976710656) :
    Calls Try.prog 68 #[.pointer (some ⟨b, 0, none⟩)] w fun r w' => r = .returned (vInt (tInt s e)) ∧ w.grownBy w' (some b) ∧ TapeAt w' b (tInt s e).2.1 (tInt s e).2.2 := by
  have H := Lib.hid (tapeInt_core h hs)
  go_enter Try.func68, Try.ntmps68
  go_wp2_with fail
  refine H.out.mono ?_
  rintro r w1 ⟨rfl, hb⟩
  go_wp2_with fail
  go_ret
  exact ⟨rfl, hb⟩
theorem tapeInt_nil (w : World) : Calls Try.prog 68 #[.pointer none] w fun r w' => r = .returned (.int .i64 0) ∧ w = w' := by
  go_enter Try.func68, Try.ntmps68
  go_wp2_with fail
  refine (takeInt_nil _ _).mono ?_
  rintro r w1 ⟨rfl, rfl⟩
  go_wp2_with fail
  go_ret
  exact ⟨rfl, rfl⟩

/-- the closure of Text: it reads the bound where it lies -/
theorem how_text {w : World} {m : Addr} {most : Int} (hm : w.cell? m = some (.int .i64 most)) (s : ByteArray) (hs : s.size ≤ 281474976710656) (h0 : -9223372036854775808 ≤ most) (h1 : most ≤ 9223372036854775807) :
    Calls Try.prog 90 #[.string s, .pointer (some m)] w fun e w' => e = .returned (txtR (rdText s most)) ∧ Below w.heap.size w w' := by
  go_enter Try.func90, Try.ntmps90
  go_wp2_with fail
  refine (rdtext_any s hs most h0 h1 _).mono ?_
  rintro e w1 ⟨rfl, hb⟩
  unfold txtR
  go_wp2_with fail
  go_ret3
  exact ⟨rfl, hb⟩
theorem rdText_le (s : ByteArray) (most : Int) : (rdText s most).2.1 ≤ s.size := by
  have h := rdNum_le s
  rcases hR : rdNum s.data.toList with ⟨N, K, E⟩
  rw [rdText_eq s most hR]
  rw [hR] at h
  split
  · exact Nat.zero_le _
  · split
    · exact Nat.zero_le _
    · split
      · exact Nat.zero_le _
      · simp only at *; omega
def vText (x : ByteArray × ByteArray × Int) : Value := .string x.1
/-- what a tape's Text makes of it -/
def tText (s : ByteArray) (e : Int) (most : Int) : ByteArray × ByteArray × Int := tk ⟨#[]⟩ s e (rdText s most)
theorem tapeText_core {w : World} {b : Nat} {s : ByteArray} {e : Int} (h : TapeAt w b s e) {m : Addr} {most : Int} (hm : w.cell? m = some (.int .i64 most)) (hs : s.size ≤ 281474976710656) (h0 : -9223372036854775808 ≤ most) (h1 : most ≤ 9223372036854775807) :
    Calls Try.prog 89 #[.pointer (some ⟨b, 0, none⟩), .func (.func 90) #[] #[.pointer (some m)]] w fun r w' => r = .returned (vText (tText s e most)) ∧ w.grownBy w' (some b) ∧ TapeAt w' b (tText s e most).2.1 (tText s e most).2.2 := by
  unfold tText
  by_cases he : e = 0
  · subst he
    have hf := rdText_le s most
    have hnum := how_text hm s hs h0 h1
    rcases hR : rdText s most with ⟨v, k, e⟩
    rw [hR] at hf hnum
    by_cases he : e = 0
    · subst he
      rw [tk_ok]
      exact takeText_ok v k h hf hnum
    · rw [tk_bad _ _ _ _ he]
      exact takeText_bad v k e h he hnum
  · rw [tk_stays _ _ _ he]
    exact (takeText_stays _ h he).mono fun r w' ⟨hr, hw⟩ => ⟨hr, hw ▸ grownBy_refl _ _, hw ▸ h⟩
theorem tapeText_any {w : World} {b : Nat} {s : ByteArray} {e : Int} (h : TapeAt w b s e) {most : Int} (hs : s.size ≤ 281474976710656) (h0 : -9223372036854775808 ≤ most) (h1 : most ≤ 9223372036854775807) :
    Calls Try.prog 70 #[.pointer (some ⟨b, 0, none⟩), .int .i64 most] w fun r w' => r = .returned (vText (tText s e most)) ∧ w.grownBy w' (some b) ∧ TapeAt w' b (tText s e most).2.1 (tText s e most).2.2 := by
  have hmf : ∀ (fn : Fn) (first cap : Array Value) (w : World), (Instr.makeFunc fn first cap).run Try.prog w = .ok (.func fn first cap) w := fun _ _ _ _ => rfl
  have hb0 : Below w.heap.size w (w.alloc (.cells #[.int .i64 most] 3)) := (Below.refl _ _).alloc (Nat.le_refl _) _
  have hm : (w.alloc (.cells #[.int .i64 most] 3)).cell? ⟨w.heap.size, 0, none⟩ = some (.int .i64 most) := by rw [World.cell?_alloc_new]; rfl
  have H := Lib.hid (tapeText_core (h.next hb0) hm hs h0 h1)
  clear hm
  go_enter Try.func70, Try.ntmps70
  go_wp2_with fail
  refine H.out.mono ?_
  rintro r w1 ⟨rfl, hg, ht⟩
  go_wp2_with fail
  go_ret
  exact ⟨rfl, ⟨hg.os.trans hb0.os, hg.tape.trans hb0.tape, hg.output.trans hb0.output, Nat.le_trans hb0.size hg.size, fun k hk hne => (hg.block k (by simp; omega) hne).trans (hb0.block k hk)⟩, ht⟩
theorem tapeText_nil (w : World) (most : Int) : Calls Try.prog 70 #[.pointer none, .int .i64 most] w fun r w' => r = .returned (.string ⟨#[]⟩) ∧ Below w.heap.size w w' := by
  have hmf : ∀ (fn : Fn) (first cap : Array Value) (w : World), (Instr.makeFunc fn first cap).run Try.prog w = .ok (.func fn first cap) w := fun _ _ _ _ => rfl
  go_enter Try.func70, Try.ntmps70
  go_wp2_with fail
  refine (takeText_nil _ _).mono ?_
  rintro r w1 ⟨rfl, rfl⟩
  go_wp2_with fail
  go_ret
  exact ⟨rfl, (Below.refl _ _).alloc (Nat.le_refl _) _⟩
end Go.Proofs.Ythdkflmkcoabaaa.Bt
/-
  CRC-32C AS A REGISTER OF BITS: a bit goes in at a time; what differs by a burst of at most 32 bits leaves another register. Plain: it imports nothing of the program.
-/
namespace Go.Proofs.Ythdkflmkcoabaaa.Ct.CrcP


def P : Nat := 0x82f63b78
/-- one bit goes in -/
def step (r b : Nat) : Nat := r / 2 ^^^ (if (r + b) % 2 = 1 then P else 0)
def feed (r : Nat) (l : List Nat) : Nat := l.foldl step r
def val : List Nat → Nat
  | [] => 0
  | b :: l => b % 2 + 2 * val l

theorem feed_nil (r) : feed r [] = r := rfl
theorem feed_cons (r b l) : feed r (b :: l) = feed (step r b) l := rfl
theorem feed_append (r l m) : feed r (l ++ m) = feed (feed r l) m := List.foldl_append

theorem P_lt : P < 2 ^ 32 := by decide
theorem step_lt {r : Nat} (b : Nat) (h : r < 2 ^ 32) : step r b < 2 ^ 32 := by
  unfold step
  apply Nat.xor_lt_two_pow
  · omega
  · split
    · exact P_lt
    · decide
theorem feed_lt {r : Nat} (l : List Nat) (h : r < 2 ^ 32) : feed r l < 2 ^ 32 := by
  induction l generalizing r with
  | nil => exact h
  | cons b l ih => exact ih (step_lt b h)

theorem xor_div2 (a b : Nat) : (a ^^^ b) / 2 = a / 2 ^^^ b / 2 := by
  have := Nat.shiftRight_xor_distrib (a := a) (b := b) (i := 1)
  simpa [Nat.shiftRight_eq_div_pow] using this
theorem xor_mod2 (a b : Nat) : (a ^^^ b) % 2 = (a + b) % 2 := by
  have h := Nat.xor_mod_two_pow (a := a) (b := b) (n := 1)
  simp only [Nat.pow_one] at h
  rw [h]
  have ha := Nat.mod_two_eq_zero_or_one a
  have hb := Nat.mod_two_eq_zero_or_one b
  rcases ha with ha | ha <;> rcases hb with hb | hb <;> rw [ha, hb] <;> simp <;> omega

theorem xor4 (a b c d : Nat) : (a ^^^ b) ^^^ (c ^^^ d) = (a ^^^ c) ^^^ (b ^^^ d) := by
  rw [Nat.xor_assoc, Nat.xor_assoc, ← Nat.xor_assoc b, Nat.xor_comm b c, Nat.xor_assoc]

theorem step_xor (r s b c : Nat) : step (r ^^^ s) (b ^^^ c) = step r b ^^^ step s c := by
  unfold step
  rw [xor_div2, xor4]
  congr 1
  have h1 := xor_mod2 r s
  have h2 := xor_mod2 b c
  by_cases h3 : (r + b) % 2 = 1 <;> by_cases h4 : (s + c) % 2 = 1
  · rw [if_pos h3, if_pos h4, if_neg (by omega), Nat.xor_self]
  · rw [if_pos h3, if_neg h4, if_pos (by omega), Nat.xor_zero]
  · rw [if_neg h3, if_pos h4, if_pos (by omega), Nat.zero_xor]
  · rw [if_neg h3, if_neg h4, if_neg (by omega), Nat.xor_zero]

theorem feed_xor (l m : List Nat) (h : l.length = m.length) (r s : Nat) : feed (r ^^^ s) (List.zipWith (· ^^^ ·) l m) = feed r l ^^^ feed s m := by
  induction l generalizing m r s with
  | nil => cases m with
    | nil => rfl
    | cons _ _ => simp at h
  | cons b l ih => cases m with
    | nil => simp at h
    | cons c m =>
      rw [List.zipWith_cons_cons, feed_cons, feed_cons, feed_cons, step_xor]
      exact ih m (by simpa using h) _ _

theorem step_zero : step 0 0 = 0 := by decide
theorem feed_zeros (n : Nat) : feed 0 (List.replicate n 0) = 0 := by
  induction n with
  | zero => rfl
  | succ n ih => rw [List.replicate_succ, feed_cons, step_zero, ih]

theorem step_inj {d : Nat} (hd : d < 2 ^ 32) (h : step d 0 = 0) : d = 0 := by
  unfold step at h
  have h' : d / 2 = (if (d + 0) % 2 = 1 then P else 0) := by
    have := congrArg (· ^^^ (if (d + 0) % 2 = 1 then P else 0)) h
    simpa [Nat.xor_assoc] using this
  split at h'
  · unfold P at h'; omega
  · omega
theorem feed_inj (n : Nat) {d : Nat} (hd : d < 2 ^ 32) (h : feed d (List.replicate n 0) = 0) : d = 0 := by
  induction n generalizing d with
  | zero => exact h
  | succ n ih => exact step_inj hd (ih (step_lt 0 hd) h)

/-- bits fed one by one, or laid over the register first -/
theorem step_val (r v : Nat) : step (r ^^^ v) 0 = step r v ^^^ v / 2 := by
  unfold step
  rw [xor_div2]
  have h1 := xor_mod2 r v
  have e : ((r ^^^ v) + 0) % 2 = (r + v) % 2 := by omega
  rw [e, Nat.xor_assoc, Nat.xor_comm (v / 2), Nat.xor_assoc]
theorem step_mod (r b : Nat) : step r b = step r (b % 2) := by
  unfold step
  have : (r + b) % 2 = (r + b % 2) % 2 := by omega
  rw [this]
theorem feed_val (l : List Nat) (r : Nat) : feed (r ^^^ val l) (List.replicate l.length 0) = feed r l := by
  induction l generalizing r with
  | nil => simp [val, feed]
  | cons b l ih =>
    rw [List.length_cons, List.replicate_succ, feed_cons, feed_cons, step_val]
    have e1 : val (b :: l) / 2 = val l := by simp only [val]; omega
    have e2 : step r (val (b :: l)) = step r b := by
      rw [step_mod r b, step_mod r (val _)]; simp only [val]; congr 1; omega
    rw [e1, e2]
    exact ih _

theorem val_lt (l : List Nat) : val l < 2 ^ l.length := by
  induction l with
  | nil => simp [val]
  | cons b l ih => simp only [val, List.length_cons, Nat.pow_succ]; omega
theorem val_zero (l : List Nat) (hb : ∀ b ∈ l, b < 2) (h : val l = 0) : l = List.replicate l.length 0 := by
  induction l with
  | nil => rfl
  | cons b l ih =>
    simp only [val] at h
    have := hb b (by simp)
    rw [List.length_cons, List.replicate_succ, ← ih (fun c hc => hb c (by simp [hc])) (by omega)]
    congr 1; omega

/-- A BURST OF AT MOST 32 BITS IS SEEN. -/
theorem burst_seen (a c : Nat) (l : List Nat) (hl : l.length ≤ 32) (hb : ∀ b ∈ l, b < 2)
    (h : feed 0 (List.replicate a 0 ++ (l ++ List.replicate c 0)) = 0) : l = List.replicate l.length 0 := by
  rw [feed_append, feed_zeros, feed_append] at h
  have h1 := feed_inj c (feed_lt l (by decide)) h
  have h2 := feed_val l 0
  rw [Nat.zero_xor, h1] at h2
  have hv : val l < 2 ^ 32 := Nat.lt_of_lt_of_le (val_lt l) (Nat.pow_le_pow_right (by decide) hl)
  exact val_zero l hb (feed_inj _ hv h2)


/-- the eight bits of a byte, the lowest first -/
def bits8 (b : Nat) : List Nat := [b % 2, b / 2 % 2, b / 4 % 2, b / 8 % 2, b / 16 % 2, b / 32 % 2, b / 64 % 2, b / 128 % 2]
theorem val_bits8 {b : Nat} (h : b < 256) : val (bits8 b) = b := by
  simp only [bits8, val]; omega
theorem feed_byte (r : Nat) {b : Nat} (h : b < 256) : feed (r ^^^ b) (List.replicate 8 0) = feed r (bits8 b) := by
  have := feed_val (bits8 b) r
  rw [val_bits8 h] at this
  exact this
/-- all bits of some bytes -/
def bitsOf : List UInt8 → List Nat
  | [] => []
  | b :: l => bits8 b.toNat ++ bitsOf l
theorem bitsOf_append (l m : List UInt8) : bitsOf (l ++ m) = bitsOf l ++ bitsOf m := by
  induction l with
  | nil => rfl
  | cons b l ih => simp [bitsOf, ih]
/-- the register behind some bytes -/
def reg (l : List UInt8) : Nat := feed 4294967295 (bitsOf l)
theorem reg_lt (l : List UInt8) : reg l < 4294967296 := feed_lt _ (by decide)
theorem reg_snoc (l : List UInt8) (b : UInt8) : reg (l ++ [b]) = feed (reg l ^^^ b.toNat) (List.replicate 8 0) := by
  unfold reg
  rw [bitsOf_append, feed_append, feed_byte _ b.toNat_lt]
  simp [bitsOf]
theorem feed_snoc (r : Nat) (l : List Nat) (b : Nat) : feed r (l ++ [b]) = step (feed r l) b := by rw [feed_append]; rfl
/-- the sum of bytes -/
def sumN (l : List UInt8) : Nat := 4294967295 - reg l
end Go.Proofs.Ythdkflmkcoabaaa.Ct.CrcP
/-
  THE WALK OF crc.Sum: bit by bit it is the register of the plain text.
-/
namespace Go.Proofs.Ythdkflmkcoabaaa.Ct
open Go.RowKit
theorem sum_step (r : Nat) (h : r < 4294967296) : bits .xor .u32 ((r : Int) / 2) (2197175160 * bits .and .u32 (r : Int) 1 % 4294967296) = ((CrcP.step r 0 : Nat) : Int) := by
  have h1 : bits .and .u32 (r : Int) 1 = ((r % 2 : Nat) : Int) := by
    have := u32_and_nat r 1 h (by decide)
    rw [nat_mask1] at this
    exact this
  have h2 : (2197175160 * ((r % 2 : Nat) : Int)) % 4294967296 = ((if (r + 0) % 2 = 1 then CrcP.P else 0 : Nat) : Int) := by
    rcases Nat.mod_two_eq_zero_or_one r with hr | hr
    · rw [if_neg (by omega), hr]; rfl
    · rw [if_pos (by omega), hr]; rfl
  have h3 : ((r : Int) / 2) = ((r / 2 : Nat) : Int) := by omega
  rw [h1, h2, h3, u32_xor_nat _ _ (by omega) (by split <;> decide)]
  rfl
theorem take_snoc (s : ByteArray) (k : Nat) (h : k < s.size) : s.data.toList.take (k + 1) = s.data.toList.take k ++ [s[k]] := by
  rw [List.take_succ_eq_append_getElem (by simpa using h)]; rfl
theorem xor_byte (r : Nat) (b : UInt8) (h : r < 4294967296) : bits .xor .u32 (r : Int) (b.toNat : Int) = ((r ^^^ b.toNat : Nat) : Int) :=
  u32_xor_nat _ _ h (by have := b.toNat_lt; omega)
theorem not_u32 (r : Nat) (h : r < 4294967296) : bits .xor .u32 IntKind.u32.max (r : Int) = ((4294967295 - r : Nat) : Int) := by
  have e2 : IntKind.u32.max = ((4294967295 : Nat) : Int) := by decide
  rw [e2, u32_xor_nat _ _ (by decide) h]
  congr 1
  apply Nat.eq_of_testBit_eq
  intro i
  rw [Nat.testBit_xor, show 4294967295 = 2 ^ 32 - 1 from rfl, Nat.testBit_two_pow_sub_one, show 2 ^ 32 - 1 - r = 2 ^ 32 - (r + 1) by omega, Nat.testBit_two_pow_sub_succ h]
  by_cases hi : i < 32
  · simp [hi]
  · have : r.testBit i = false := Nat.testBit_lt_two_pow (Nat.lt_of_lt_of_le (show r < 2 ^ 32 from h) (Nat.pow_le_pow_right (by decide) (by omega)))
    simp [hi, this]
theorem ret_u32 {a b : Int} (h : a = b) : Ending.returned (.int .u32 a) = .returned (.int .u32 b) := by rw [h]
set_option maxHeartbeats 400000 in
theorem sum_any (s : ByteArray) (hs : s.size ≤ 9223372036854775807) (w : World) :
    Calls Try.prog 102 #[.string s] w fun e w' => e = .returned (.int .u32 (CrcP.sumN s.data.toList)) ∧ w = w' := by
  go_enter Try.func102, Try.ntmps102
  go_wp2
  go_loop [3, 7] (fun n i => ∃ k : Nat, k ≤ s.size ∧ i = .int .i64 k ∧ n = .int .u32 (CrcP.reg (s.data.toList.take k) : Nat)) (fun _ i => s.size - (intOf i).toNat)
  case atStart => exact ⟨0, Nat.zero_le _, rfl, rfl⟩
  case round =>
    obtain ⟨k, hk, rfl, rfl⟩ := hrel
    have hr := CrcP.reg_lt (s.data.toList.take k)
    by_cases hlt : k < s.size
    · have hsn := CrcP.reg_snoc (s.data.toList.take k) s[k]
      rw [← take_snoc s k hlt] at hsn
      have hx := xor_byte _ s[k] hr
      have hq : CrcP.reg (s.data.toList.take k) ^^^ s[k].toNat < 4294967296 := Nat.xor_lt_two_pow (n := 32) hr (by have := s[k].toNat_lt; omega)
      generalize hR : CrcP.reg (s.data.toList.take k) = R at *
      generalize hR1 : CrcP.reg (s.data.toList.take (k + 1)) = R1 at *
      have HR1 := Lib.hid hR1
      clear hR1 hR
      have Hsn := Lib.hid hsn
      clear hsn
      have hb : (s[k].toNat : Int) ≤ 255 := by have := s[k].toNat_lt; omega
      generalize hQ : R ^^^ s[k].toNat = Q at *
      have HQ := Lib.hid hQ
      clear hQ hr
      go_wp2
      go_loop [3, 16] (fun n i => ∃ j : Nat, j ≤ 8 ∧ i = .int .i64 j ∧ n = .int .u32 (CrcP.feed Q (List.replicate j 0) : Nat)) (fun _ i => 8 - (intOf i).toNat)
      case atStart => exact ⟨0, by omega, rfl, rfl⟩
      case round =>
        obtain ⟨j, hj, rfl, rfl⟩ := hrel
        by_cases hlj : j < 8
        · have hF := CrcP.feed_lt (List.replicate j 0) hq
          have hst := sum_step _ hF
          have hnx : CrcP.feed Q (List.replicate (j + 1) 0) = CrcP.step (CrcP.feed Q (List.replicate j 0)) 0 := by rw [List.replicate_succ', CrcP.feed_snoc]
          have Hnx := Lib.hid hnx
          clear hnx
          go_wp2
          go_round
          case rel => exact ⟨j + 1, by omega, by go_num, by rw [Hnx.out]⟩
          case measure => simp [intOf]; omega
        · obtain rfl : j = 8 := by omega
          have Hend : Hid (CrcP.feed Q (List.replicate 8 0) = R1) := Hsn.out.symm
          go_wp2
          go_round
          case rel => exact ⟨k + 1, by omega, by go_num, by rw [HR1.out, ← Hend.out]⟩
          case measure => simp [intOf]; omega
    · have hn := not_u32 _ hr
      go_wp2
      go_ret
      exact ⟨ret_u32 (by unfold CrcP.sumN; rw [List.take_of_length_le (by simp; omega)]), rfl⟩
end Go.Proofs.Ythdkflmkcoabaaa.Ct
/-
  THE WALK OF THE DOCUMENT'S OWN SUM (auspiceref02): the bits of each byte go in one by one.
-/
namespace Go.Proofs.Ythdkflmkcoabaaa.Ct
open Go.RowKit
theorem low_bit (F b : Nat) (hF : F < 4294967296) (hb : b < 256) : bits .xor .u32 (bits .and .u32 (F : Int) 1) (bits .and .u32 (b : Int) 1) = (((F + b) % 2 : Nat) : Int) := by
  have h1 : bits .and .u32 (F : Int) 1 = ((F % 2 : Nat) : Int) := by
    have := u32_and_nat F 1 hF (by decide)
    rw [nat_mask1] at this
    exact this
  have h2 : bits .and .u32 (b : Int) 1 = ((b % 2 : Nat) : Int) := by
    have := u32_and_nat b 1 (by omega) (by decide)
    rw [nat_mask1] at this
    exact this
  rw [h1, h2, u32_xor_nat _ _ (by omega) (by omega)]
  congr 1
  have h := CrcP.xor_mod2 (F % 2) (b % 2)
  have h3 : F % 2 ^^^ b % 2 < 2 := Nat.xor_lt_two_pow (n := 1) (by omega) (by omega)
  omega
theorem low_yes {F b : Nat} (hF : F < 4294967296) (hb : b < 256) (h : (F + b) % 2 = 1) : (bits .xor .u32 (bits .and .u32 (F : Int) 1) (bits .and .u32 (b : Int) 1) == 1) = true := by
  rw [low_bit F b hF hb, h]; rfl
theorem low_no {F b : Nat} (hF : F < 4294967296) (hb : b < 256) (h : ¬ (F + b) % 2 = 1) : (bits .xor .u32 (bits .and .u32 (F : Int) 1) (bits .and .u32 (b : Int) 1) == 1) = false := by
  rw [low_bit F b hF hb, show (F + b) % 2 = 0 by omega]; rfl
theorem step_yes {F b : Nat} (hF : F < 4294967296) (h : (F + b) % 2 = 1) : bits .xor .u32 ((F : Int) / 2) 2197175160 = ((CrcP.step F (b % 2) : Nat) : Int) := by
  have h3 : ((F : Int) / 2) = ((F / 2 : Nat) : Int) := by omega
  have := u32_xor_nat (F / 2) 2197175160 (by omega) (by decide)
  rw [h3]
  unfold CrcP.step
  rw [if_pos (by omega)]
  exact this
theorem step_no {F b : Nat} (h : ¬ (F + b) % 2 = 1) : ((F : Int) / 2) = ((CrcP.step F (b % 2) : Nat) : Int) := by
  unfold CrcP.step
  rw [if_neg (by omega), Nat.xor_zero]
  omega
theorem xor_all (r : Nat) (h : r < 4294967296) : bits .xor .u32 (r : Int) 4294967295 = ((4294967295 - r : Nat) : Int) := by
  have h1 := not_u32 r h
  have e2 : IntKind.u32.max = ((4294967295 : Nat) : Int) := by decide
  rw [e2, u32_xor_nat _ _ (by decide) h, Nat.xor_comm] at h1
  rw [← h1]
  exact u32_xor_nat r 4294967295 h (by decide)
theorem put_u32 {a b : Int} (h : a = b) : Value.int .u32 a = Value.int .u32 b := by rw [h]
theorem reg_next (s : ByteArray) (k : Nat) (h : k < s.size) : CrcP.reg (s.data.toList.take (k + 1)) = CrcP.feed (CrcP.reg (s.data.toList.take k)) ((CrcP.bits8 s[k].toNat).take 8) := by
  rw [take_snoc s k h, CrcP.reg_snoc, CrcP.feed_byte _ s[k].toNat_lt]; rfl
set_option maxHeartbeats 2000000 in
theorem rsum_any (s : ByteArray) (hs : s.size ≤ 9223372036854775807) (w : World) :
    Calls Try.prog 60 #[.string s] w fun e w' => e = .returned (.int .u32 (CrcP.sumN s.data.toList)) ∧ w = w' := by
  go_enter Try.func60, Try.ntmps60
  go_wp2
  go_loop [3, 4] (fun n i => ∃ k : Nat, k ≤ s.size ∧ i = .int .i64 k ∧ n = .int .u32 (CrcP.reg (s.data.toList.take k) : Nat)) (fun _ i => s.size - (intOf i).toNat)
  case atStart => exact ⟨0, Nat.zero_le _, rfl, rfl⟩
  case round =>
    obtain ⟨k, hk, rfl, rfl⟩ := hrel
    have hr := CrcP.reg_lt (s.data.toList.take k)
    by_cases hlt : k < s.size
    · have hbn := s[k].toNat_lt
      have hb : (s[k].toNat : Int) ≤ 255 := by omega
      have Hnext := Lib.hid (reg_next s k hlt)
      generalize hR : CrcP.reg (s.data.toList.take k) = R at *
      clear hR
      go_wp2
      go_loop [3, 5] (fun n i => ∃ j : Nat, j ≤ 8 ∧ i = .int .i64 j ∧ n = .int .u32 (CrcP.feed R ((CrcP.bits8 s[k].toNat).take j) : Nat)) (fun _ i => 8 - (intOf i).toNat)
      case atStart => exact ⟨0, by omega, rfl, rfl⟩
      case round =>
        obtain ⟨j, hj, rfl, rfl⟩ := hrel
        have hF := CrcP.feed_lt ((CrcP.bits8 s[k].toNat).take j) (r := R) hr
        generalize hFe : CrcP.feed R ((CrcP.bits8 s[k].toNat).take j) = F at *
        have HFe := Lib.hid hFe
        clear hFe
        have hjc : j = 8 ∨ j = 0 ∨ j = 1 ∨ j = 2 ∨ j = 3 ∨ j = 4 ∨ j = 5 ∨ j = 6 ∨ j = 7 := by omega
        rcases hjc with rfl | rfl | rfl | rfl | rfl | rfl | rfl | rfl | rfl
        · go_wp2
          go_round
          case rel => exact ⟨k + 1, by omega, by go_num, by rw [Hnext.out, HFe.out]⟩
          case measure => simp [intOf]; omega
        · by_cases hc : (F + s[k].toNat) % 2 = 1
          · have ht : (bits .xor .u32 (bits .and .u32 (F : Int) 1) (bits .and .u32 (s[k].toNat : Int) 1) == 1) = true := low_yes (b := s[k].toNat) hF (by omega) hc
            go_wp2
            go_round
            case rel => exact ⟨1, by omega, rfl, put_u32 (by rw [step_yes hF hc, ← HFe.out, ← CrcP.feed_snoc]; rfl)⟩
            case measure => simp [intOf]
          · have ht : (bits .xor .u32 (bits .and .u32 (F : Int) 1) (bits .and .u32 (s[k].toNat : Int) 1) == 1) = false := low_no (b := s[k].toNat) hF (by omega) hc
            go_wp2
            go_round
            case rel => exact ⟨1, by omega, rfl, put_u32 (by rw [step_no hc, ← HFe.out, ← CrcP.feed_snoc]; rfl)⟩
            case measure => simp [intOf]
        · by_cases hc : (F + (s[k].toNat / 2)) % 2 = 1
          · have ht : (bits .xor .u32 (bits .and .u32 (F : Int) 1) (bits .and .u32 ((s[k].toNat : Int) / 2) 1) == 1) = true := low_yes (b := (s[k].toNat / 2)) hF (by omega) hc
            go_wp2
            go_round
            case rel => exact ⟨2, by omega, rfl, put_u32 (by rw [step_yes hF hc, ← HFe.out, ← CrcP.feed_snoc]; rfl)⟩
            case measure => simp [intOf]
          · have ht : (bits .xor .u32 (bits .and .u32 (F : Int) 1) (bits .and .u32 ((s[k].toNat : Int) / 2) 1) == 1) = false := low_no (b := (s[k].toNat / 2)) hF (by omega) hc
            go_wp2
            go_round
            case rel => exact ⟨2, by omega, rfl, put_u32 (by rw [step_no hc, ← HFe.out, ← CrcP.feed_snoc]; rfl)⟩
            case measure => simp [intOf]
        · by_cases hc : (F + (s[k].toNat / 4)) % 2 = 1
          · have ht : (bits .xor .u32 (bits .and .u32 (F : Int) 1) (bits .and .u32 ((s[k].toNat : Int) / 4) 1) == 1) = true := low_yes (b := (s[k].toNat / 4)) hF (by omega) hc
            go_wp2
            go_round
            case rel => exact ⟨3, by omega, rfl, put_u32 (by rw [step_yes hF hc, ← HFe.out, ← CrcP.feed_snoc]; rfl)⟩
            case measure => simp [intOf]
          · have ht : (bits .xor .u32 (bits .and .u32 (F : Int) 1) (bits .and .u32 ((s[k].toNat : Int) / 4) 1) == 1) = false := low_no (b := (s[k].toNat / 4)) hF (by omega) hc
            go_wp2
            go_round
            case rel => exact ⟨3, by omega, rfl, put_u32 (by rw [step_no hc, ← HFe.out, ← CrcP.feed_snoc]; rfl)⟩
            case measure => simp [intOf]
        · by_cases hc : (F + (s[k].toNat / 8)) % 2 = 1
          · have ht : (bits .xor .u32 (bits .and .u32 (F : Int) 1) (bits .and .u32 ((s[k].toNat : Int) / 8) 1) == 1) = true := low_yes (b := (s[k].toNat / 8)) hF (by omega) hc
            go_wp2
            go_round
            case rel => exact ⟨4, by omega, rfl, put_u32 (by rw [step_yes hF hc, ← HFe.out, ← CrcP.feed_snoc]; rfl)⟩
            case measure => simp [intOf]
          · have ht : (bits .xor .u32 (bits .and .u32 (F : Int) 1) (bits .and .u32 ((s[k].toNat : Int) / 8) 1) == 1) = false := low_no (b := (s[k].toNat / 8)) hF (by omega) hc
            go_wp2
            go_round
            case rel => exact ⟨4, by omega, rfl, put_u32 (by rw [step_no hc, ← HFe.out, ← CrcP.feed_snoc]; rfl)⟩
            case measure => simp [intOf]
        · by_cases hc : (F + (s[k].toNat / 16)) % 2 = 1
          · have ht : (bits .xor .u32 (bits .and .u32 (F : Int) 1) (bits .and .u32 ((s[k].toNat : Int) / 16) 1) == 1) = true := low_yes (b := (s[k].toNat / 16)) hF (by omega) hc
            go_wp2
            go_round
            case rel => exact ⟨5, by omega, rfl, put_u32 (by rw [step_yes hF hc, ← HFe.out, ← CrcP.feed_snoc]; rfl)⟩
            case measure => simp [intOf]
          · have ht : (bits .xor .u32 (bits .and .u32 (F : Int) 1) (bits .and .u32 ((s[k].toNat : Int) / 16) 1) == 1) = false := low_no (b := (s[k].toNat / 16)) hF (by omega) hc
            go_wp2
            go_round
            case rel => exact ⟨5, by omega, rfl, put_u32 (by rw [step_no hc, ← HFe.out, ← CrcP.feed_snoc]; rfl)⟩
            case measure => simp [intOf]
        · by_cases hc : (F + (s[k].toNat / 32)) % 2 = 1
          · have ht : (bits .xor .u32 (bits .and .u32 (F : Int) 1) (bits .and .u32 ((s[k].toNat : Int) / 32) 1) == 1) = true := low_yes (b := (s[k].toNat / 32)) hF (by omega) hc
            go_wp2
            go_round
            case rel => exact ⟨6, by omega, rfl, put_u32 (by rw [step_yes hF hc, ← HFe.out, ← CrcP.feed_snoc]; rfl)⟩
            case measure => simp [intOf]
          · have ht : (bits .xor .u32 (bits .and .u32 (F : Int) 1) (bits .and .u32 ((s[k].toNat : Int) / 32) 1) == 1) = false := low_no (b := (s[k].toNat / 32)) hF (by omega) hc
            go_wp2
            go_round
            case rel => exact ⟨6, by omega, rfl, put_u32 (by rw [step_no hc, ← HFe.out, ← CrcP.feed_snoc]; rfl)⟩
            case measure => simp [intOf]
        · by_cases hc : (F + (s[k].toNat / 64)) % 2 = 1
          · have ht : (bits .xor .u32 (bits .and .u32 (F : Int) 1) (bits .and .u32 ((s[k].toNat : Int) / 64) 1) == 1) = true := low_yes (b := (s[k].toNat / 64)) hF (by omega) hc
            go_wp2
            go_round
            case rel => exact ⟨7, by omega, rfl, put_u32 (by rw [step_yes hF hc, ← HFe.out, ← CrcP.feed_snoc]; rfl)⟩
            case measure => simp [intOf]
          · have ht : (bits .xor .u32 (bits .and .u32 (F : Int) 1) (bits .and .u32 ((s[k].toNat : Int) / 64) 1) == 1) = false := low_no (b := (s[k].toNat / 64)) hF (by omega) hc
            go_wp2
            go_round
            case rel => exact ⟨7, by omega, rfl, put_u32 (by rw [step_no hc, ← HFe.out, ← CrcP.feed_snoc]; rfl)⟩
            case measure => simp [intOf]
        · by_cases hc : (F + (s[k].toNat / 128)) % 2 = 1
          · have ht : (bits .xor .u32 (bits .and .u32 (F : Int) 1) (bits .and .u32 ((s[k].toNat : Int) / 128) 1) == 1) = true := low_yes (b := (s[k].toNat / 128)) hF (by omega) hc
            go_wp2
            go_round
            case rel => exact ⟨8, by omega, rfl, put_u32 (by rw [step_yes hF hc, ← HFe.out, ← CrcP.feed_snoc]; rfl)⟩
            case measure => simp [intOf]
          · have ht : (bits .xor .u32 (bits .and .u32 (F : Int) 1) (bits .and .u32 ((s[k].toNat : Int) / 128) 1) == 1) = false := low_no (b := (s[k].toNat / 128)) hF (by omega) hc
            go_wp2
            go_round
            case rel => exact ⟨8, by omega, rfl, put_u32 (by rw [step_no hc, ← HFe.out, ← CrcP.feed_snoc]; rfl)⟩
            case measure => simp [intOf]
    · have hn := xor_all _ hr
      go_wp2
      go_ret
      exact ⟨ret_u32 (by unfold CrcP.sumN; rw [List.take_of_length_le (by simp; omega)]), rfl⟩
end Go.Proofs.Ythdkflmkcoabaaa.Ct
/-
  THE WALKS OF foot, Pack AND THE DOCUMENT OWN Pack.
-/
namespace Go.Proofs.Ythdkflmkcoabaaa.Ct
open Go.RowKit
theorem conv_new (W : World) (cs : List Value) (xs : List Int) (off : Nat) (h : cs.drop off = xs.map (Value.int .u8)) (len : Nat) (hl : xs.length = len) (t cap : Nat) :
    (convert 96 9 (.slice (some ⟨W.heap.size, off, none⟩) len cap)).run Try.prog (W.alloc (.cells cs.toArray t)) = .ok (.string (strOfNums xs)) (W.alloc (.cells cs.toArray t)) := by
  refine run_convert_bytes_arg (P := Try.prog) _ 96 5 Try.underlying96 Try.underlying5 W.heap.size off len cap xs hl ?_ 9 Try.underlying9
  intro i hi
  rw [World.cell?_alloc_new]
  have e := congrArg (fun l => l[i]?) h
  simp only [List.getElem?_drop, List.getElem?_map] at e
  rw [List.getElem?_toArray, e, List.getElem?_eq_getElem (by omega)]
  simp [List.getD, List.getElem?_eq_getElem (show i < xs.length by omega)]
theorem clone_any (s : ByteArray) (w : World) (hs : s.size ≤ 281474976710656) :
    Calls Try.prog 83 #[.string s] w fun e w' => e = .returned (.string s) ∧ Below w.heap.size w w' := by
  exact str_clone s w hs
/-- three bytes, the highest first -/
def head3 (n : Int) : List Int := [n / 65536, n / 256 % 256, n % 256]
/-- four bytes, the lowest first -/
def foot4 (n : Int) : List Int := [n % 256, n / 256 % 256, n / 65536 % 256, n / 16777216]
def sumI (s : ByteArray) : Int := (CrcP.sumN s.data.toList : Nat)
def footS (s : ByteArray) : ByteArray := strOfNums (foot4 (sumI s))
/-- how many bytes the body has, and the body -/
def frontS (b : ByteArray) : ByteArray := strOfNums (head3 b.size) ++ b
/-- a body's pack -/
def packS (b : ByteArray) : ByteArray := frontS b ++ footS (frontS b)
theorem sumI_bd (s : ByteArray) : 0 ≤ sumI s ∧ sumI s < 4294967296 := by
  unfold sumI CrcP.sumN; omega
theorem foot_size (s : ByteArray) : (footS s).size = 4 := by unfold footS; rw [strOfNums_size]; rfl
theorem front_size (b : ByteArray) : (frontS b).size = b.size + 3 := by
  unfold frontS
  rw [ByteArray.size_append, strOfNums_size]
  simp [head3]; omega
theorem pack_size (b : ByteArray) : (packS b).size = b.size + 7 := by
  unfold packS
  rw [ByteArray.size_append, foot_size, front_size]
set_option maxHeartbeats 400000 in
theorem foot_any (s : ByteArray) (hs : s.size ≤ 9223372036854775807) (w : World) :
    Calls Try.prog 95 #[.string s] w fun e w' => e = .returned (.string (footS s)) ∧ Below w.heap.size w w' := by
  have h := sumI_bd s
  have H : Hid (∀ w, Calls Try.prog 102 #[.string s] w fun e w' => e = .returned (.int .u32 (sumI s)) ∧ w = w') := fun w => sum_any s hs w
  unfold footS
  generalize sumI s = n at *
  have hconv := fun W : World => conv_new W [.int .u8 (n % 256), .int .u8 (n / 256 % 256), .int .u8 (n / 65536 % 256), .int .u8 (n / 16777216)] (foot4 n) 0 rfl 4 rfl 5 4
  go_enter Try.func95, Try.ntmps95
  go_wp2_with fail
  refine (H.out _).mono ?_
  rintro e w1 ⟨rfl, rfl⟩
  go_wp2_with fail
  go_ret
  exact ⟨rfl, (Below.refl _ _).alloc (Nat.le_refl _) _⟩
set_option maxHeartbeats 400000 in
theorem pack_any (b : ByteArray) (hb : b.size ≤ 1048576) (w : World) :
    Calls Try.prog 77 #[.string b] w fun e w' => e = .returned (.tuple #[.string (packS b), .int .i64 0]) ∧ Below w.heap.size w w' := by
  have hconv := fun W : World => conv_new W [.int .u8 ((b.size : Int) / 65536), .int .u8 ((b.size : Int) / 256 % 256), .int .u8 ((b.size : Int) % 256)] (head3 b.size) 0 rfl 3 rfl 5 3
  have hz : (strOfNums (head3 b.size)).size = 3 := by rw [strOfNums_size]; rfl
  have hf : (strOfNums (head3 b.size) ++ b).size = b.size + 3 := front_size b
  have hfo := foot_size (strOfNums (head3 b.size) ++ b)
  have hz1 : (strOfNums (head3 b.size)).size + b.size ≤ 9223372036854775807 := by omega
  have hz2 : (strOfNums (head3 b.size) ++ b).size + (footS (strOfNums (head3 b.size) ++ b)).size ≤ 9223372036854775807 := by omega
  clear hz hfo
  have Hf := Lib.hid hf
  clear hf
  go_enter Try.func77, Try.ntmps77
  go_wp2_with fail
  refine (foot_any _ (by have := Hf.out; omega) _).mono ?_
  rintro e w1 ⟨rfl, hb1⟩
  go_wp2_with fail
  go_ret2
  exact ⟨rfl, ((Below.refl _ _).alloc (Nat.le_refl _) _).trans (hb1.mono (by simp))⟩
theorem pack_long (b : ByteArray) (hb : 1048576 < b.size) (hb2 : b.size ≤ 9223372036854775807) (w : World) :
    Calls Try.prog 77 #[.string b] w fun e w' => e = .returned (.tuple #[.string ⟨#[]⟩, .int .i64 2]) ∧ w = w' := by
  go_enter Try.func77, Try.ntmps77
  go_wp2_with fail
  go_ret2
  exact ⟨rfl, rfl⟩
theorem rpack_long (b : ByteArray) (hb : 1048576 < b.size) (hb2 : b.size ≤ 9223372036854775807) (w : World) :
    Calls Try.prog 33 #[.string b] w fun e w' => e = .returned (.tuple #[.string ⟨#[]⟩, .int .i64 2]) ∧ w = w' := by
  go_enter Try.func33, Try.ntmps33
  go_wp2_with fail
  go_ret2
  exact ⟨rfl, rfl⟩
set_option maxHeartbeats 400000 in
theorem rpack_any (b : ByteArray) (hb : b.size ≤ 1048576) (w : World) :
    Calls Try.prog 33 #[.string b] w fun e w' => e = .returned (.tuple #[.string (packS b), .int .i64 0]) ∧ Below w.heap.size w w' := by
  have hconv := fun W : World => conv_new W [.int .u8 ((b.size : Int) / 65536), .int .u8 ((b.size : Int) / 256 % 256), .int .u8 ((b.size : Int) % 256)] (head3 b.size) 0 rfl 3 rfl 5 3
  have hz : (strOfNums (head3 b.size)).size = 3 := by rw [strOfNums_size]; rfl
  have hf : (strOfNums (head3 b.size) ++ b).size = b.size + 3 := front_size b
  have hfo := foot_size (strOfNums (head3 b.size) ++ b)
  have hz1 : (strOfNums (head3 b.size)).size + b.size ≤ 9223372036854775807 := by omega
  have hz2 : (strOfNums (head3 b.size) ++ b).size + (strOfNums (foot4 (sumI (strOfNums (head3 b.size) ++ b)))).size ≤ 9223372036854775807 := by unfold footS at hfo; omega
  clear hz hfo
  have Hf := Lib.hid hf
  clear hf
  have hn := sumI_bd (strOfNums (head3 b.size) ++ b)
  go_enter Try.func33, Try.ntmps33
  go_wp2_with fail
  refine (rsum_any _ (by have := Hf.out; omega) _).mono ?_
  rintro e w1 ⟨rfl, rfl⟩
  have hpk : Hid (packS b = (strOfNums (head3 b.size) ++ b) ++ strOfNums (foot4 (sumI (strOfNums (head3 b.size) ++ b)))) := rfl
  have b0 := (Below.refl w.heap.size w).alloc (Nat.le_refl _) (.cells #[.int .u8 ((b.size : Int) / 65536), .int .u8 ((b.size : Int) / 256 % 256), .int .u8 ((b.size : Int) % 256)] 5)
  generalize w.alloc (.cells #[.int .u8 ((b.size : Int) / 65536), .int .u8 ((b.size : Int) / 256 % 256), .int .u8 ((b.size : Int) % 256)] 5) = w0 at *
  rw [show ((CrcP.sumN (strOfNums (head3 b.size) ++ b).data.toList : Nat) : Int) = sumI (strOfNums (head3 b.size) ++ b) from rfl]
  generalize hN : sumI (strOfNums (head3 b.size) ++ b) = n at *
  clear hN
  have hconv2 := fun W : World => conv_new W [.int .u8 (n % 256), .int .u8 (n / 256 % 256), .int .u8 (n / 65536 % 256), .int .u8 (n / 16777216)] (foot4 n) 0 rfl 4 rfl 5 4
  go_wp2_with fail
  go_ret2
  exact ⟨by rw [hpk.out]; rfl, b0.alloc b0.size _⟩
end Go.Proofs.Ythdkflmkcoabaaa.Ct
/-
  THE WALK OF crc.cut: what stands at the front, as a pack.
-/
namespace Go.Proofs.Ythdkflmkcoabaaa.Ct
open Go.RowKit Go.Sort
theorem mixed : Try.prog.follows .mixedOrders = true := by kernel_rfl
/-- how many bytes the body has, by the first three -/
def len3 (s : ByteArray) : Nat := (s.data.toList.getD 0 0).toNat * 65536 + (s.data.toList.getD 1 0).toNat * 256 + (s.data.toList.getD 2 0).toNat
/-- what stands at the front, as a pack -/
def unp (s : ByteArray) : ByteArray × ByteArray × Int :=
  if s.size < 3 then (⟨#[]⟩, ⟨#[]⟩, 5) else if 1048576 < len3 s then (⟨#[]⟩, ⟨#[]⟩, 2) else if s.size < len3 s + 7 then (⟨#[]⟩, ⟨#[]⟩, 5)
  else if s.extract (len3 s + 3) (len3 s + 7) ≠ footS (s.extract 0 (len3 s + 3)) then (⟨#[]⟩, ⟨#[]⟩, 6)
  else (s.extract 3 (len3 s + 3), s.extract (len3 s + 7) s.size, 0)
def unpV (x : ByteArray × ByteArray × Int) : Value := .tuple #[.string x.1, .string x.2.1, .int .i64 x.2.2]
theorem unp_eq (s : ByteArray) (h : ¬ s.size < 3) : unp s = if 1048576 < len3 s then (⟨#[]⟩, ⟨#[]⟩, 2) else if s.size < len3 s + 7 then (⟨#[]⟩, ⟨#[]⟩, 5)
  else if s.extract (len3 s + 3) (len3 s + 7) ≠ footS (s.extract 0 (len3 s + 3)) then (⟨#[]⟩, ⟨#[]⟩, 6)
  else (s.extract 3 (len3 s + 3), s.extract (len3 s + 7) s.size, 0) := by unfold unp; rw [if_neg h]
theorem len3_eq (s : ByteArray) (h0 : 0 < s.size) (h1 : 1 < s.size) (h2 : 2 < s.size) : len3 s = s[0].toNat * 65536 + s[1].toNat * 256 + s[2].toNat := by
  have e : ∀ i (h : i < s.size), s.data.toList.getD i 0 = s[i] := fun i h => by
    rw [List.getD_eq_getElem?_getD, List.getElem?_eq_getElem (by simpa using h)]; rfl
  unfold len3
  rw [e 0 h0, e 1 h1, e 2 h2]
theorem or3 (a b c : UInt8) : bits .or .i64 (bits .or .i64 ((a.toNat : Int) * 65536) ((b.toNat : Int) * 256)) (c.toNat : Int) = ((a.toNat * 65536 + b.toNat * 256 + c.toNat : Nat) : Int) := by
  have ha := a.toNat_lt
  have hb := b.toNat_lt
  have hc := c.toNat_lt
  have hw : ∀ n : Int, 0 ≤ n → n < 2 ^ 63 → IntKind.i64.wrap n = n := fun n h0 h1 => IntWalk.i64_in n ⟨by omega, by omega⟩
  have e1 : bits .or .i64 ((a.toNat : Int) * 65536) ((b.toNat : Int) * 256) = (a.toNat : Int) * 65536 + (b.toNat : Int) * 256 := bits_join .i64 63 (by decide) hw 16 _ _ (by omega) (by omega) (by omega) (by omega) (by omega) (by omega)
  rw [e1, bits_join .i64 63 (by decide) hw 8 _ _ (by omega) (by omega) (by omega) (by omega) (by omega) (by omega)]
  omega
set_option maxRecDepth 10000 in
set_option maxHeartbeats 1000000 in
theorem cut_any (s : ByteArray) (hs : s.size ≤ 281474976710656) (w : World) :
    Calls Try.prog 94 #[.string s] w fun e w' => e = .returned (unpV (unp s)) ∧ Below w.heap.size w w' := by
  by_cases h3 : s.size < 3
  · have hu : Hid (unp s = (⟨#[]⟩, ⟨#[]⟩, 5)) := by unfold Hid unp; rw [if_pos h3]
    go_enter Try.func94, Try.ntmps94
    go_wp2_with fail
    go_ret3
    exact ⟨by rw [hu.out]; rfl, Below.refl _ _⟩
  · have b0 := s[0].toNat_lt
    have b1 := s[1].toNat_lt
    have b2 := s[2].toNat_lt
    have p0 : (0 : Int) < (s.size : Int) := by omega
    have p1 : (1 : Int) < (s.size : Int) := by omega
    have p2 : (2 : Int) < (s.size : Int) := by omega
    have q0 : 0 < s.size := by omega
    have q1 : 1 < s.size := by omega
    have q2 : 2 < s.size := by omega
    have hor := or3 s[0] s[1] s[2]
    rw [← len3_eq s q0 q1 q2] at hor
    have hu := Lib.hid (unp_eq s h3)
    generalize len3 s = L at *
    by_cases h4 : 1048576 < L
    · have hu2 := hu.out
      rw [if_pos h4] at hu2
      have Hu := Lib.hid hu2
      clear hu2 hu
      go_enter Try.func94, Try.ntmps94
      go_wp2_with fail
      go_quiet (fail)
      go_wp2_with fail
      go_ret3
      exact ⟨by rw [Hu.out]; rfl, below_drewN (Below.refl _ _) _⟩
    by_cases h5 : s.size < L + 7
    · have hu2 := hu.out
      rw [if_neg h4, if_pos h5] at hu2
      have Hu := Lib.hid hu2
      clear hu2 hu
      go_enter Try.func94, Try.ntmps94
      go_wp2_with fail
      go_quiet (fail)
      go_wp2_with fail
      go_ret3
      exact ⟨by rw [Hu.out]; rfl, below_drewN (Below.refl _ _) _⟩
    · go_enter Try.func94, Try.ntmps94
      go_wp2_with fail
      go_quiet (fail)
      go_wp2_with fail
      have b1 : Below w.heap.size w (w.drewN nq) := below_drewN (Below.refl _ _) _
      generalize w.drewN nq = w1 at *
      have hF := foot_any (s.extract 0 (3 + L)) (by simp; omega)
      have cF : ∀ d os, Calls Try.prog 95 #[.string (s.extract 0 (3 + L))] (grow (redrawn w1 d) os) fun e w'' => e = .returned (.string (footS (s.extract 0 (3 + L)))) ∧ ∃ p : Regrown, w'' = grow (redrawn w1 p.d) p.os := fun d os => Calls.regrown_of (hF _)
      clear hF
      have CF := Lib.hid cF
      clear cF
      have l1 : IntKind.i64.wrap (3 + (L : Int) + 4) = 3 + (L : Int) + 4 := IntWalk.i64_in _ ⟨by omega, by omega⟩
      have l2 : (0 : Int) ≤ 3 + (L : Int) + 4 := by omega
      have l3 : (3 + (L : Int) + 4).toNat = 3 + L + 4 := by omega
      have l4 : (0 : Int) ≤ 3 + (L : Int) := by omega
      have l5 : (3 + (L : Int)).toNat = 3 + L := by omega
      have l6 : 3 + (L : Int) ≤ 3 + (L : Int) + 4 := by omega
      have l7 : 3 + (L : Int) ≤ (s.size : Int) := by omega
      have l8 : 3 + L + 4 ≤ s.size := by omega
      have l9 : 3 + L ≤ s.size := by omega
      refine wp_region_quiet_below mixed (by kernel_rfl) ?_
      repeat (quiet_step (exact CF.out _ _))
      refine wpQuiet_nil ?_
      intro _ hw'
      obtain ⟨⟨dq, osq⟩, hw''⟩ := hw'
      subst hw''
      have b2 : Below w.heap.size w (grow (redrawn w1 dq) osq) := b1.trans ((below_regrown w1 dq osq).mono b1.size)
      generalize grow (redrawn w1 dq) osq = w2 at *
      have hu2 := hu.out
      rw [if_neg h4, if_neg h5, Nat.add_comm L 3, show L + 7 = 3 + L + 4 from by omega] at hu2
      by_cases h6 : s.extract (3 + L) (3 + L + 4) = footS (s.extract 0 (3 + L))
      · have h7 : (!((s.extract (3 + L) (3 + L + 4)).toList == (footS (s.extract 0 (3 + L))).toList)) = false := by rw [h6]; simp
        rw [h7]
        clear h7
        rw [if_neg (by simpa using h6)] at hu2
        have Hu := Lib.hid hu2
        clear hu2 hu h6
        go_wp2_with fail
        go_quiet (fail)
        go_wp2_with fail
        go_ret3
        exact ⟨by rw [Hu.out]; rfl, below_drewN b2 _⟩
      · have h7 : (!((s.extract (3 + L) (3 + L + 4)).toList == (footS (s.extract 0 (3 + L))).toList)) = true := by
          rw [Bool.not_eq_true', beq_eq_false_iff_ne]
          intro he
          exact h6 (ByteArray.ext (Array.toList_inj.1 (by rw [← Lib.toList_data, ← Lib.toList_data, he])))
        rw [h7]
        clear h7
        rw [if_pos (by simpa using h6)] at hu2
        have Hu := Lib.hid hu2
        clear hu2 hu h6
        go_wp2_with fail
        go_ret3
        exact ⟨by rw [Hu.out]; rfl, b2⟩
end Go.Proofs.Ythdkflmkcoabaaa.Ct
/-
  WHAT A PACK AT THE FRONT IS, TWO WAYS; THE WALK OF crc.Unpack.
-/
namespace Go.Proofs.Ythdkflmkcoabaaa.Ct
open Go.RowKit Go.Sort
theorem bytes_ext {a b : ByteArray} (h : a.data.toList = b.data.toList) : a = b := ByteArray.ext (Array.toList_inj.1 h)
theorem append_data (a b : ByteArray) : (a ++ b).data.toList = a.data.toList ++ b.data.toList := by simp
theorem extract_split (s : ByteArray) {a b c : Nat} (h1 : a ≤ b) (h2 : b ≤ c) : s.extract a c = s.extract a b ++ s.extract b c := by
  apply bytes_ext
  rw [append_data, Lib.extract_data, Lib.extract_data, Lib.extract_data]
  rw [show c - a = (b - a) + (c - b) by omega, List.take_add, List.drop_drop, show a + (b - a) = b by omega]
theorem append_inj_left {a b c d : ByteArray} (h : a ++ b = c ++ d) (hs : a.size = c.size) : b = d := by
  have h1 := congrArg (fun x : ByteArray => x.data.toList) h
  simp only [append_data] at h1
  have := List.append_inj h1 (by rw [← Lib.size_eq, ← Lib.size_eq, hs])
  exact bytes_ext this.2
theorem len3_of (a b c : UInt8) : ([((a.toNat * 65536 + b.toNat * 256 + c.toNat : Nat) : Int) / 65536, ((a.toNat * 65536 + b.toNat * 256 + c.toNat : Nat) : Int) / 256 % 256, ((a.toNat * 65536 + b.toNat * 256 + c.toNat : Nat) : Int) % 256].map fun n => UInt8.ofNat n.toNat) = [a, b, c] := by
  have ha := a.toNat_lt
  have hb := b.toNat_lt
  have hc := c.toNat_lt
  have e1 : (((a.toNat * 65536 + b.toNat * 256 + c.toNat : Nat) : Int) / 65536).toNat = a.toNat := by omega
  have e2 : (((a.toNat * 65536 + b.toNat * 256 + c.toNat : Nat) : Int) / 256 % 256).toNat = b.toNat := by omega
  have e3 : (((a.toNat * 65536 + b.toNat * 256 + c.toNat : Nat) : Int) % 256).toNat = c.toNat := by omega
  simp only [List.map_cons, List.map_nil, e1, e2, e3]
  simp
theorem front_of (s : ByteArray) (h3 : ¬ s.size < 3) (h : len3 s + 3 ≤ s.size) : frontS (s.extract 3 (len3 s + 3)) = s.extract 0 (len3 s + 3) := by
  have hl := len3_eq s (by omega) (by omega) (by omega)
  have hsz : (s.extract 3 (len3 s + 3)).size = len3 s := by simp; omega
  unfold frontS
  rw [hsz, extract_split s (a := 0) (b := 3) (c := len3 s + 3) (by omega) (by omega)]
  congr 1
  apply bytes_ext
  rw [strOfNums_data, Lib.extract_data]
  unfold head3
  rw [hl, len3_of]
  have hlen : s.data.toList.length = s.size := (Lib.size_eq s).symm
  match hm : s.data.toList with
  | [] => rw [hm] at hlen; simp at hlen; omega
  | [a] => rw [hm] at hlen; simp at hlen; omega
  | [a, b] => rw [hm] at hlen; simp at hlen; omega
  | a :: b :: c :: r =>
    have e : ∀ i (h : i < s.size), s[i] = s.data.toList.getD i 0 := fun i h => by
      rw [List.getD_eq_getElem?_getD, List.getElem?_eq_getElem (by simpa using h)]; rfl
    rw [e 0 (by omega), e 1 (by omega), e 2 (by omega), hm]
    rfl
theorem pack_iff (s : ByteArray) (h3 : ¬ s.size < 3) (h : len3 s + 7 ≤ s.size) : packS (s.extract 3 (len3 s + 3)) = s.extract 0 (len3 s + 7) ↔ s.extract (len3 s + 3) (len3 s + 7) = footS (s.extract 0 (len3 s + 3)) := by
  unfold packS
  rw [front_of s h3 (by omega), extract_split s (a := 0) (b := len3 s + 3) (c := len3 s + 7) (by omega) (by omega)]
  constructor
  · intro he
    exact (append_inj_left he rfl).symm
  · intro he
    rw [he]
theorem unp_le (s : ByteArray) : (unp s).1.size ≤ s.size ∧ (unp s).2.1.size ≤ s.size := by
  unfold unp
  split
  · exact ⟨Nat.zero_le _, Nat.zero_le _⟩
  · split
    · exact ⟨Nat.zero_le _, Nat.zero_le _⟩
    · split
      · exact ⟨Nat.zero_le _, Nat.zero_le _⟩
      · split
        · exact ⟨Nat.zero_le _, Nat.zero_le _⟩
        · simp; omega
set_option maxHeartbeats 400000 in
theorem unpack_any (s : ByteArray) (hs : s.size ≤ 281474976710656) (w : World) :
    Calls Try.prog 76 #[.string s] w fun e w' => e = .returned (unpV (unp s)) ∧ Below w.heap.size w w' := by
  have hle := unp_le s
  have H := Lib.hid (cut_any s hs w)
  generalize unp s = x at *
  obtain ⟨a, b, e⟩ := x
  have l1 : a.size ≤ 281474976710656 := Nat.le_trans hle.1 hs
  have l2 : b.size ≤ 281474976710656 := Nat.le_trans hle.2 hs
  clear hle
  go_enter Try.func76, Try.ntmps76
  go_wp2_with fail
  refine H.out.mono ?_
  rintro e w1 ⟨rfl, b1⟩
  unfold unpV
  go_wp2_with fail
  refine (clone_any _ _ l1).mono ?_
  rintro e w2 ⟨rfl, b2⟩
  go_wp2_with fail
  refine (clone_any _ _ l2).mono ?_
  rintro e w3 ⟨rfl, b3⟩
  go_wp2_with fail
  go_ret3
  have s1 := b1.size
  have s2 := b2.size
  exact ⟨rfl, (b1.trans (b2.mono s1)).trans (b3.mono (by omega))⟩
end Go.Proofs.Ythdkflmkcoabaaa.Ct
/-
  THE TEXT OF A VOTE, AND SaveVote, SaveSnap WHERE THERE IS NO DISK.
-/
namespace Go.Proofs.Ythdkflmkcoabaaa
open Go.RowKit
def voteS (t f : Int) : ByteArray := Bt.numS t ++ Bt.intS f
theorem voteB_bd {t f : Int} (h : voteB t f = true) : 0 ≤ t ∧ t ≤ 549755813888 ∧ -1 ≤ f ∧ f < 7 := by
  unfold voteB idxB at h
  simp only [Bool.and_eq_true, decide_eq_true_eq] at h
  omega
set_option maxHeartbeats 1000000 in
theorem vote_no {t f : Int} (h : voteB t f = false) (w : World) : Calls Try.prog 10 #[voteV t f] w fun e w' => e = .returned (.tuple #[.string ⟨#[]⟩, .int .i64 1]) ∧ Below w.heap.size w w' := by
  have M := Lib.hid (fun W => voteMay_any t f W)
  rw [h] at M
  clear h
  unfold voteV at *
  go_enter Try.func10, Try.ntmps10
  go_wp2_with fail
  refine (M.out _).mono ?_
  rintro e w1 ⟨rfl, b1⟩
  have B1 := Lib.hid (((Below.refl _ w).alloc (Nat.le_refl _) (.cells #[.int .i64 t, .int .i64 f] 23)).trans (b1.mono (by simp)))
  clear b1
  go_wp2_with fail
  go_ret2
  exact ⟨rfl, B1.out⟩
set_option maxHeartbeats 2000000 in
theorem vote_ok {t f : Int} (h : voteB t f = true) (w : World) : Calls Try.prog 10 #[voteV t f] w fun e w' => e = .returned (.tuple #[.string (voteS t f), .int .i64 0]) ∧ Below w.heap.size w w' := by
  have M := Lib.hid (fun W => voteMay_any t f W)
  rw [h] at M
  obtain ⟨t0, t1, f0, f1⟩ := voteB_bd h
  have NA := Lib.hid (fun W => Bt.num_any t t0 (by omega) W)
  have NB := Lib.hid (fun W => Bt.int_any f (by omega) (by omega) W)
  have hA := Bt.numS_size t
  have hB : (Bt.intS f).size ≤ 9 := Bt.numS_size _
  unfold voteS
  generalize Bt.numS t = A at *
  generalize Bt.intS f = K at *
  clear h
  unfold voteV at *
  generalize hy : w.heap.size = Y at *
  go_enter Try.func10, Try.ntmps10
  go_wp2_with fail
  refine (M.out _).mono ?_
  rintro e w1 ⟨rfl, b1⟩
  have K0 : Blk (w.alloc (.cells #[.int .i64 t, .int .i64 f] 23)) Y 23 #[.int .i64 t, .int .i64 f] := by rw [← hy]; exact Blk.new w 23 _
  have K1 := Lib.hid (K0.below b1 (by simp [hy]))
  have B1 := Lib.hid (((Below.refl Y w).alloc (Nat.le_of_eq hy.symm) (.cells #[.int .i64 t, .int .i64 f] 23)).trans (b1.mono (by simp [hy])))
  clear b1 K0
  go_wp2_with fail
  have d0 : w1.cell? ⟨Y, 0, none⟩ = some (.int .i64 t) := K1.out.cell 0
  have d1 : w1.cell? ⟨Y, 1, none⟩ = some (.int .i64 f) := K1.out.cell 1
  have x0 := fun d os => cell_regrown d0 d os
  have x1 := fun d os => cell_regrown d1 d os
  have C1 := Lib.hid (fun d os => Calls.regrown_of (d := d) (os := os) (NA.out (Go.Sort.grow (redrawn w1 d) os)))
  have C2 := Lib.hid (fun d os => Calls.regrown_of (d := d) (os := os) (NB.out (Go.Sort.grow (redrawn w1 d) os)))
  have q1 : ¬ (9223372036854775807 < A.size + K.size) := by omega
  have u1 : IntKind.u64.wrap t = t := IntWalk.u64_in _ (by omega)
  refine wp_region_quiet_below Ct.mixed (by kernel_rfl) ?_
  repeat (quiet_step (first | (with_reducible exact C1.out _ _) | (with_reducible exact C2.out _ _)))
  refine wpQuiet_nil ?_
  intro _ hw'
  obtain ⟨⟨dq, osq⟩, hw''⟩ := hw'
  subst hw''
  have b3 := below_regrown w1 dq osq
  have B3h := Lib.hid (B1.out.trans (b3.mono (by have := B1.out.size; omega)))
  clear x0 x1 d0 d1 C1 C2 b3 u1 q1 NA NB
  generalize Go.Sort.grow (redrawn w1 dq) osq = w3 at *
  go_wp2_with fail
  go_ret2
  exact ⟨rfl, B3h.out⟩
end Go.Proofs.Ythdkflmkcoabaaa
/-
  A VOTE TAKEN OFF A TAPE.
-/
namespace Go.Proofs.Ythdkflmkcoabaaa
open Go.RowKit
def tv1 (s : ByteArray) : Nat × ByteArray × Int := Bt.tNum s 0
def tv2 (s : ByteArray) : Int × ByteArray × Int := Bt.tInt (tv1 s).2.1 (tv1 s).2.2
theorem tk_le {α : Type} (z : α) (s : ByteArray) (e : Int) (r : α × Nat × Int) : (Bt.tk z s e r).2.1.size ≤ s.size := by
  unfold Bt.tk
  split
  · exact Nat.le_refl _
  · split
    · exact Nat.le_refl _
    · simp only [ByteArray.size_extract]; omega
theorem tv1_le (s : ByteArray) : (tv1 s).2.1.size ≤ s.size := tk_le _ _ _ _
theorem tv2_le (s : ByteArray) : (tv2 s).2.1.size ≤ s.size := Nat.le_trans (tk_le _ _ _ _) (tv1_le s)
theorem Fr.grown {w w' : World} {b : Nat} (h : w.grownBy w' (some b)) : Fr w w' (fun q => q = b) := (Fr.of_grown h).mono fun q _ e => by injection e
theorem Bt.TapeAt.fr2 {w w' : World} {b : Nat} {s : ByteArray} {e : Int} {P : Nat → Prop} (h : Bt.TapeAt w b s e) (hf : Fr w w' P) (hP : ¬ P b) : Bt.TapeAt w' b s e := (hf.block b h.lt hP).trans h
set_option maxHeartbeats 2000000 in
theorem takeVote_any {w : World} {b : Nat} {s : ByteArray} (h : Bt.TapeAt w b s 0) (hs : s.size ≤ 281474976710656) :
    Calls Try.prog 45 #[.pointer (some ⟨b, 0, none⟩)] w fun r w' => r = .returned (voteV (wrap64 ((tv1 s).1 : Int)) (tv2 s).1) ∧ Fr w w' (fun q => q = b) ∧ Bt.TapeAt w' b (tv2 s).2.1 (tv2 s).2.2 := by
  have hlt := h.lt
  have l1 := tv1_le s
  have bA : Below w.heap.size w (w.alloc (.cells #[.int .i64 0, .int .i64 0] 23)) := (Below.refl _ w).alloc (Nat.le_refl _) _
  have hA := h.below bA hlt
  have N1 := Lib.hid (Bt.tapeNum_any hA hs)
  have I1 := Lib.hid (fun W (hW : Bt.TapeAt W b (tv1 s).2.1 (tv1 s).2.2) => Bt.tapeInt_any hW (by omega))
  rw [show Bt.tNum s 0 = tv1 s from rfl] at N1
  have FA := Lib.hid (Fr.of_below bA (fun q => q = b))
  have BK := Lib.hid (Blk.new w 23 #[.int .i64 0, .int .i64 0])
  unfold Bt.vNum at N1
  unfold Bt.vInt at I1
  unfold voteV
  rw [show Bt.tInt (tv1 s).2.1 (tv1 s).2.2 = tv2 s from rfl] at I1
  generalize tv2 s = y at *
  generalize tv1 s = x at *
  obtain ⟨xn, xs, xe⟩ := x
  obtain ⟨yn, ys, ye⟩ := y
  simp only at N1 I1 ⊢
  clear h hA bA l1
  generalize hy : w.heap.size = Y at *
  go_enter Try.func45, Try.ntmps45
  go_wp2_with fail
  refine N1.out.mono ?_
  rintro e w1 ⟨rfl, g1, t1⟩
  have F1 := Fr.grown g1
  have K1 := BK.out.fr F1 (by omega)
  have F1h := Lib.hid (FA.out.trans F1 (R := fun q => q = b) (fun _ _ h => h) (fun _ _ h => h))
  have K1h := Lib.hid K1
  have I2 := Lib.hid (I1.out _ t1)
  clear g1 F1 K1 t1 N1 I1 FA BK
  go_wp2_with fail
  refine I2.out.mono ?_
  rintro e w2 ⟨rfl, g2, t2⟩
  have F2 := Fr.grown g2
  have K2 := K1h.out.fr F2 (by omega)
  have F2h := Lib.hid (F1h.out.trans F2 (R := fun q => q = b) (fun _ _ h => h) (fun _ _ h => h))
  have t2h := Lib.hid t2
  have K2h := Lib.hid K2
  clear g2 F2 I2 t2 F1h K1h K2
  have c0 := K2h.out.cell 0
  have c1 := K2h.out.cell 1
  have f0 := K2h.out.free 0
  have f1 := K2h.out.free 1
  simp only [List.getElem?_toArray] at c0 c1
  go_wp2_with fail
  have K5 : Blk ((w2.setCell ⟨Y, 0, none⟩ (.int .i64 (wrap64 (xn : Int)))).setCell ⟨Y, 1, none⟩ (.int .i64 yn)) Y 23 #[.int .i64 (wrap64 (xn : Int)), .int .i64 yn] := (K2h.out.set 0 _).set 1 _
  have F5 := Lib.hid ((F2h.out.trans (fr_set w2 Y 0 (.int .i64 (wrap64 (xn : Int)))) (R := fun q => q = b) (fun _ _ h => h) (fun q hq h => by omega)).trans (fr_set _ Y 1 (.int .i64 yn)) (R := fun q => q = b) (fun _ _ h => h) (fun q hq h => by omega))
  have T5 := Lib.hid ((t2h.out.fr2 (fr_set w2 Y 0 (.int .i64 (wrap64 (xn : Int)))) (by omega)).fr2 (fr_set _ Y 1 (.int .i64 yn)) (by omega))
  clear F2h t2h K2h f0 f1 c0 c1
  generalize (w2.setCell ⟨Y, 0, none⟩ (.int .i64 (wrap64 (xn : Int)))).setCell ⟨Y, 1, none⟩ (.int .i64 yn) = w5 at *
  have z0 : w5.cell? ⟨Y, 0, none⟩ = some (.int .i64 (wrap64 (xn : Int))) := K5.cell 0
  have z1 : w5.cell? ⟨Y, 1, none⟩ = some (.int .i64 yn) := K5.cell 1
  refine bodyPost_ret (by simp [results, Try.results45, go_sem, z0, z1]; try rfl) rfl ?_
  exact ⟨rfl, F5.out, T5.out⟩
end Go.Proofs.Ythdkflmkcoabaaa
