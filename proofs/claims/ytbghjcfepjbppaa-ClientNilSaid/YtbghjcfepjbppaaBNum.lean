/-
  THE WALKS OF bits.lay, bits.fold, bits.Num: what each answers, and that nothing that was there has turned.
-/
import Derived.Test.YtbghjcfepjbppaaRows
import Derived.WalkKit
import Derived.WalkSpells
import Derived.WalkLawsBesides
import Derived.Lib.Zigzag
import Derived.Handy
import Derived.Lib.Hide
import Derived.Laws.BytesArg
namespace Go.Proofs.Ytbghjcfepjbppaa.Bt
open Go.RowKit

/-- n's lowest k bytes, the highest first -/
def be : Nat → Int → List Int
  | 0, _ => []
  | k + 1, n => be k (n / 256) ++ [n % 256]
/-- how many bytes n has -/
def wid (n : Int) : Nat := if n < 256 then 1 else if n < 65536 then 2 else if n < 16777216 then 3 else if n < 4294967296 then 4 else if n < 1099511627776 then 5 else if n < 281474976710656 then 6 else if n < 72057594037927936 then 7 else 8
/-- a number's bytes, as the document says -/
def numI (n : Int) : List Int := if n ≤ 247 then [n] else ((247 + wid n : Nat) : Int) :: be (wid n) n
def numS (n : Int) : ByteArray := strOfNums (numI n)

theorem fold_eq (n : Int) (h0 : -9223372036854775808 ≤ n) (h1 : n ≤ 9223372036854775807) :
    bits BinOp.xor IntKind.u64 (IntKind.u64.wrap (IntKind.u64.wrap n * 2)) (IntKind.u64.wrap (n / 9223372036854775808)) = ((Lib.zigzag n : Nat) : Int) := by
  by_cases hn : 0 ≤ n
  · have e1 : n / 9223372036854775808 = 0 := by omega
    have e2 : IntKind.u64.wrap (0 : Int) = ((0 : Nat) : Int) := by decide
    have e3 : IntKind.u64.wrap (IntKind.u64.wrap n * 2) = (((2 * n).toNat : Nat) : Int) := by
      rw [IntKind.wrap_u64, IntKind.wrap_u64]; omega
    rw [e1, e2, e3, bits_xor_u64_nat _ _ (by omega) (by decide), Nat.xor_zero]
    unfold Lib.zigzag; rw [if_pos hn]
  · have e1 : n / 9223372036854775808 = -1 := by omega
    have e2 : IntKind.u64.wrap (-1 : Int) = ((2 ^ 64 - 1 : Nat) : Int) := by decide
    have e3 : IntKind.u64.wrap (IntKind.u64.wrap n * 2) = (((2 * n + 18446744073709551616).toNat : Nat) : Int) := by
      rw [IntKind.wrap_u64, IntKind.wrap_u64]; omega
    rw [e1, e2, e3, bits_xor_u64_nat _ _ (by omega) (by decide), Nat.xor_comm, Lib.xor_ones64 _ (by omega)]
    unfold Lib.zigzag; rw [if_neg hn]; omega
theorem fold_any (n : Int) (h0 : -9223372036854775808 ≤ n) (h1 : n ≤ 9223372036854775807) (w : World) :
    Calls Try.prog 106 #[.int .i64 n] w fun e w' => e = .returned (.int .u64 ((Lib.zigzag n : Nat) : Int)) ∧ w = w' := by
  have H := Lib.hid (fold_eq n h0 h1)
  go_enter Try.func106, Try.ntmps106
  go_wp2
  go_ret
  exact ⟨by rw [← H.out]; rfl, rfl⟩

/-- the nine bytes that lay answers -/
def laid (n : Int) : Array Value := #[.int .u8 0, .int .u8 (n / 256 / 256 / 256 / 256 / 256 / 256 / 256), .int .u8 (n / 256 / 256 / 256 / 256 / 256 / 256 % 256), .int .u8 (n / 256 / 256 / 256 / 256 / 256 % 256), .int .u8 (n / 256 / 256 / 256 / 256 % 256), .int .u8 (n / 256 / 256 / 256 % 256), .int .u8 (n / 256 / 256 % 256), .int .u8 (n / 256 % 256), .int .u8 (n % 256)]
set_option maxRecDepth 100000 in
set_option maxHeartbeats 1000000 in
theorem lay_any (n : Int) (h0 : 0 ≤ n) (h1 : n < 18446744073709551616) (w : World) :
    Calls Try.prog 80 #[.int .u64 n] w fun e w' => e = .returned (.agg (laid n)) ∧ w.alloc (.cells (laid n) 154) = w' := by
  go_enter Try.func80, Try.ntmps80
  go_wp2
  go_rounds 9
  go_returns
  exact ⟨rfl, rfl⟩
theorem lay_cells (cs : Array Value) (n : Int) (h0 : 0 ≤ n) (h1 : n < 18446744073709551616) (hc : laid n = cs) (w : World) :
    Calls Try.prog 80 #[.int .u64 n] w fun e w' => e = .returned (.agg cs) ∧ Below w.heap.size w w' :=
  (lay_any n h0 h1 w).mono fun e w' ⟨he, hw⟩ => ⟨by rw [he, hc], by subst hw; exact (Below.refl _ _).alloc (Nat.le_refl _) _⟩

/-- a new block's bytes as a string, from one of them on -/
theorem conv_new (W : World) (cs : List Value) (xs : List Int) (off : Nat) (h : cs.drop off = xs.map (Value.int .u8)) (len : Nat) (hl : xs.length = len) (t cap : Nat) :
    (convert 153 9 (.slice (some ⟨W.heap.size, off, none⟩) len cap)).run Try.prog (W.alloc (.cells cs.toArray t)) = .ok (.string (strOfNums xs)) (W.alloc (.cells cs.toArray t)) := by
  refine run_convert_bytes_arg (P := Try.prog) _ 153 5 Try.underlying153 Try.underlying5 W.heap.size off len cap xs hl ?_ 9 Try.underlying9
  intro i hi
  rw [World.cell?_alloc_new]
  have e := congrArg (fun l => l[i]?) h
  simp only [List.getElem?_drop, List.getElem?_map] at e
  rw [List.getElem?_toArray, e, List.getElem?_eq_getElem (by omega)]
  simp [List.getD, List.getElem?_eq_getElem (show i < xs.length by omega)]


set_option maxRecDepth 100000 in
set_option maxHeartbeats 1000000 in
theorem num_1 (n c8 : Int) (h0 : 247 < n) (h1 : n < 18446744073709551616) (hc : laid n = #[.int .u8 0, .int .u8 0, .int .u8 0, .int .u8 0, .int .u8 0, .int .u8 0, .int .u8 0, .int .u8 0, .int .u8 c8]) (hz : (c8 == 0) = false) (w : World) :
    Calls Try.prog 57 #[.int .u64 n] w fun e w' => e = .returned (.string (strOfNums [248, c8])) ∧ Below w.heap.size w w' := by
  have Hc := Lib.hid hc
  clear hc
  have hn : ¬ n ≤ 247 := by omega
  have hconv := fun W : World => conv_new W [.int .u8 0, .int .u8 0, .int .u8 0, .int .u8 0, .int .u8 0, .int .u8 0, .int .u8 0, .int .u8 248, .int .u8 c8] [248, c8] 7 rfl 2 rfl 154 2
  go_enter Try.func57, Try.ntmps57
  go_wp2_with (go_at_call 80; refine (lay_cells _ _ (by omega) (by omega) Hc.out _).mono ?_; rintro e w1 ⟨rfl, hb⟩)
  go_rounds 9
  go_ret
  exact ⟨rfl, hb.alloc hb.size _⟩


set_option maxRecDepth 100000 in
set_option maxHeartbeats 1000000 in
theorem num_2 (n c7 c8 : Int) (h0 : 247 < n) (h1 : n < 18446744073709551616) (hc : laid n = #[.int .u8 0, .int .u8 0, .int .u8 0, .int .u8 0, .int .u8 0, .int .u8 0, .int .u8 0, .int .u8 c7, .int .u8 c8]) (hz : (c7 == 0) = false) (w : World) :
    Calls Try.prog 57 #[.int .u64 n] w fun e w' => e = .returned (.string (strOfNums [249, c7, c8])) ∧ Below w.heap.size w w' := by
  have Hc := Lib.hid hc
  clear hc
  have hn : ¬ n ≤ 247 := by omega
  have hconv := fun W : World => conv_new W [.int .u8 0, .int .u8 0, .int .u8 0, .int .u8 0, .int .u8 0, .int .u8 0, .int .u8 249, .int .u8 c7, .int .u8 c8] [249, c7, c8] 6 rfl 3 rfl 154 3
  go_enter Try.func57, Try.ntmps57
  go_wp2_with (go_at_call 80; refine (lay_cells _ _ (by omega) (by omega) Hc.out _).mono ?_; rintro e w1 ⟨rfl, hb⟩)
  go_rounds 9
  go_ret
  exact ⟨rfl, hb.alloc hb.size _⟩


set_option maxRecDepth 100000 in
set_option maxHeartbeats 1000000 in
theorem num_3 (n c6 c7 c8 : Int) (h0 : 247 < n) (h1 : n < 18446744073709551616) (hc : laid n = #[.int .u8 0, .int .u8 0, .int .u8 0, .int .u8 0, .int .u8 0, .int .u8 0, .int .u8 c6, .int .u8 c7, .int .u8 c8]) (hz : (c6 == 0) = false) (w : World) :
    Calls Try.prog 57 #[.int .u64 n] w fun e w' => e = .returned (.string (strOfNums [250, c6, c7, c8])) ∧ Below w.heap.size w w' := by
  have Hc := Lib.hid hc
  clear hc
  have hn : ¬ n ≤ 247 := by omega
  have hconv := fun W : World => conv_new W [.int .u8 0, .int .u8 0, .int .u8 0, .int .u8 0, .int .u8 0, .int .u8 250, .int .u8 c6, .int .u8 c7, .int .u8 c8] [250, c6, c7, c8] 5 rfl 4 rfl 154 4
  go_enter Try.func57, Try.ntmps57
  go_wp2_with (go_at_call 80; refine (lay_cells _ _ (by omega) (by omega) Hc.out _).mono ?_; rintro e w1 ⟨rfl, hb⟩)
  go_rounds 9
  go_ret
  exact ⟨rfl, hb.alloc hb.size _⟩


set_option maxRecDepth 100000 in
set_option maxHeartbeats 1000000 in
theorem num_4 (n c5 c6 c7 c8 : Int) (h0 : 247 < n) (h1 : n < 18446744073709551616) (hc : laid n = #[.int .u8 0, .int .u8 0, .int .u8 0, .int .u8 0, .int .u8 0, .int .u8 c5, .int .u8 c6, .int .u8 c7, .int .u8 c8]) (hz : (c5 == 0) = false) (w : World) :
    Calls Try.prog 57 #[.int .u64 n] w fun e w' => e = .returned (.string (strOfNums [251, c5, c6, c7, c8])) ∧ Below w.heap.size w w' := by
  have Hc := Lib.hid hc
  clear hc
  have hn : ¬ n ≤ 247 := by omega
  have hconv := fun W : World => conv_new W [.int .u8 0, .int .u8 0, .int .u8 0, .int .u8 0, .int .u8 251, .int .u8 c5, .int .u8 c6, .int .u8 c7, .int .u8 c8] [251, c5, c6, c7, c8] 4 rfl 5 rfl 154 5
  go_enter Try.func57, Try.ntmps57
  go_wp2_with (go_at_call 80; refine (lay_cells _ _ (by omega) (by omega) Hc.out _).mono ?_; rintro e w1 ⟨rfl, hb⟩)
  go_rounds 9
  go_ret
  exact ⟨rfl, hb.alloc hb.size _⟩


set_option maxRecDepth 100000 in
set_option maxHeartbeats 1000000 in
theorem num_5 (n c4 c5 c6 c7 c8 : Int) (h0 : 247 < n) (h1 : n < 18446744073709551616) (hc : laid n = #[.int .u8 0, .int .u8 0, .int .u8 0, .int .u8 0, .int .u8 c4, .int .u8 c5, .int .u8 c6, .int .u8 c7, .int .u8 c8]) (hz : (c4 == 0) = false) (w : World) :
    Calls Try.prog 57 #[.int .u64 n] w fun e w' => e = .returned (.string (strOfNums [252, c4, c5, c6, c7, c8])) ∧ Below w.heap.size w w' := by
  have Hc := Lib.hid hc
  clear hc
  have hn : ¬ n ≤ 247 := by omega
  have hconv := fun W : World => conv_new W [.int .u8 0, .int .u8 0, .int .u8 0, .int .u8 252, .int .u8 c4, .int .u8 c5, .int .u8 c6, .int .u8 c7, .int .u8 c8] [252, c4, c5, c6, c7, c8] 3 rfl 6 rfl 154 6
  go_enter Try.func57, Try.ntmps57
  go_wp2_with (go_at_call 80; refine (lay_cells _ _ (by omega) (by omega) Hc.out _).mono ?_; rintro e w1 ⟨rfl, hb⟩)
  go_rounds 9
  go_ret
  exact ⟨rfl, hb.alloc hb.size _⟩


set_option maxRecDepth 100000 in
set_option maxHeartbeats 1000000 in
theorem num_6 (n c3 c4 c5 c6 c7 c8 : Int) (h0 : 247 < n) (h1 : n < 18446744073709551616) (hc : laid n = #[.int .u8 0, .int .u8 0, .int .u8 0, .int .u8 c3, .int .u8 c4, .int .u8 c5, .int .u8 c6, .int .u8 c7, .int .u8 c8]) (hz : (c3 == 0) = false) (w : World) :
    Calls Try.prog 57 #[.int .u64 n] w fun e w' => e = .returned (.string (strOfNums [253, c3, c4, c5, c6, c7, c8])) ∧ Below w.heap.size w w' := by
  have Hc := Lib.hid hc
  clear hc
  have hn : ¬ n ≤ 247 := by omega
  have hconv := fun W : World => conv_new W [.int .u8 0, .int .u8 0, .int .u8 253, .int .u8 c3, .int .u8 c4, .int .u8 c5, .int .u8 c6, .int .u8 c7, .int .u8 c8] [253, c3, c4, c5, c6, c7, c8] 2 rfl 7 rfl 154 7
  go_enter Try.func57, Try.ntmps57
  go_wp2_with (go_at_call 80; refine (lay_cells _ _ (by omega) (by omega) Hc.out _).mono ?_; rintro e w1 ⟨rfl, hb⟩)
  go_rounds 9
  go_ret
  exact ⟨rfl, hb.alloc hb.size _⟩


set_option maxRecDepth 100000 in
set_option maxHeartbeats 1000000 in
theorem num_7 (n c2 c3 c4 c5 c6 c7 c8 : Int) (h0 : 247 < n) (h1 : n < 18446744073709551616) (hc : laid n = #[.int .u8 0, .int .u8 0, .int .u8 c2, .int .u8 c3, .int .u8 c4, .int .u8 c5, .int .u8 c6, .int .u8 c7, .int .u8 c8]) (hz : (c2 == 0) = false) (w : World) :
    Calls Try.prog 57 #[.int .u64 n] w fun e w' => e = .returned (.string (strOfNums [254, c2, c3, c4, c5, c6, c7, c8])) ∧ Below w.heap.size w w' := by
  have Hc := Lib.hid hc
  clear hc
  have hn : ¬ n ≤ 247 := by omega
  have hconv := fun W : World => conv_new W [.int .u8 0, .int .u8 254, .int .u8 c2, .int .u8 c3, .int .u8 c4, .int .u8 c5, .int .u8 c6, .int .u8 c7, .int .u8 c8] [254, c2, c3, c4, c5, c6, c7, c8] 1 rfl 8 rfl 154 8
  go_enter Try.func57, Try.ntmps57
  go_wp2_with (go_at_call 80; refine (lay_cells _ _ (by omega) (by omega) Hc.out _).mono ?_; rintro e w1 ⟨rfl, hb⟩)
  go_rounds 9
  go_ret
  exact ⟨rfl, hb.alloc hb.size _⟩


set_option maxRecDepth 100000 in
set_option maxHeartbeats 1000000 in
theorem num_8 (n c1 c2 c3 c4 c5 c6 c7 c8 : Int) (h0 : 247 < n) (h1 : n < 18446744073709551616) (hc : laid n = #[.int .u8 0, .int .u8 c1, .int .u8 c2, .int .u8 c3, .int .u8 c4, .int .u8 c5, .int .u8 c6, .int .u8 c7, .int .u8 c8]) (hz : (c1 == 0) = false) (w : World) :
    Calls Try.prog 57 #[.int .u64 n] w fun e w' => e = .returned (.string (strOfNums [255, c1, c2, c3, c4, c5, c6, c7, c8])) ∧ Below w.heap.size w w' := by
  have Hc := Lib.hid hc
  clear hc
  have hn : ¬ n ≤ 247 := by omega
  have hconv := fun W : World => conv_new W [.int .u8 255, .int .u8 c1, .int .u8 c2, .int .u8 c3, .int .u8 c4, .int .u8 c5, .int .u8 c6, .int .u8 c7, .int .u8 c8] [255, c1, c2, c3, c4, c5, c6, c7, c8] 0 rfl 9 rfl 154 9
  go_enter Try.func57, Try.ntmps57
  go_wp2_with (go_at_call 80; refine (lay_cells _ _ (by omega) (by omega) Hc.out _).mono ?_; rintro e w1 ⟨rfl, hb⟩)
  go_rounds 9
  go_ret
  exact ⟨rfl, hb.alloc hb.size _⟩


theorem num_0 (n : Int) (h0 : 0 ≤ n) (h1 : n ≤ 247) (w : World) :
    Calls Try.prog 57 #[.int .u64 n] w fun e w' => e = .returned (.string (strOfNums [n])) ∧ Below w.heap.size w w' := by
  have hconv := fun W : World => conv_new W [.int .u8 n] [n] 0 rfl 1 rfl 5 1
  go_enter Try.func57, Try.ntmps57
  go_wp2
  go_ret
  exact ⟨rfl, (Below.refl _ _).alloc (Nat.le_refl _) _⟩


theorem num_any (n : Int) (h0 : 0 ≤ n) (h1 : n < 18446744073709551616) (w : World) :
    Calls Try.prog 57 #[.int .u64 n] w fun e w' => e = .returned (.string (numS n)) ∧ Below w.heap.size w w' := by
  unfold numS numI wid
  by_cases hn : n ≤ 247
  · rw [if_pos hn]; exact num_0 n h0 hn w
  rw [if_neg hn]
  by_cases g1 : n < 256
  · rw [if_pos g1]
    refine num_1 n (n % 256) (by omega) h1 ?_ (beq_eq_false_iff_ne.2 (by omega)) w
    unfold laid; congr 1; simp only [List.cons.injEq, Value.int.injEq, true_and, and_true]; omega
  by_cases g2 : n < 65536
  · rw [if_neg g1, if_pos g2]
    refine num_2 n (n / 256 % 256) (n % 256) (by omega) h1 ?_ (beq_eq_false_iff_ne.2 (by omega)) w
    unfold laid; congr 1; simp only [List.cons.injEq, Value.int.injEq, true_and, and_true]; omega
  by_cases g3 : n < 16777216
  · rw [if_neg g1, if_neg g2, if_pos g3]
    refine num_3 n (n / 256 / 256 % 256) (n / 256 % 256) (n % 256) (by omega) h1 ?_ (beq_eq_false_iff_ne.2 (by omega)) w
    unfold laid; congr 1; simp only [List.cons.injEq, Value.int.injEq, true_and, and_true]; omega
  by_cases g4 : n < 4294967296
  · rw [if_neg g1, if_neg g2, if_neg g3, if_pos g4]
    refine num_4 n (n / 256 / 256 / 256 % 256) (n / 256 / 256 % 256) (n / 256 % 256) (n % 256) (by omega) h1 ?_ (beq_eq_false_iff_ne.2 (by omega)) w
    unfold laid; congr 1; simp only [List.cons.injEq, Value.int.injEq, true_and, and_true]; omega
  by_cases g5 : n < 1099511627776
  · rw [if_neg g1, if_neg g2, if_neg g3, if_neg g4, if_pos g5]
    refine num_5 n (n / 256 / 256 / 256 / 256 % 256) (n / 256 / 256 / 256 % 256) (n / 256 / 256 % 256) (n / 256 % 256) (n % 256) (by omega) h1 ?_ (beq_eq_false_iff_ne.2 (by omega)) w
    unfold laid; congr 1; simp only [List.cons.injEq, Value.int.injEq, true_and, and_true]; omega
  by_cases g6 : n < 281474976710656
  · rw [if_neg g1, if_neg g2, if_neg g3, if_neg g4, if_neg g5, if_pos g6]
    refine num_6 n (n / 256 / 256 / 256 / 256 / 256 % 256) (n / 256 / 256 / 256 / 256 % 256) (n / 256 / 256 / 256 % 256) (n / 256 / 256 % 256) (n / 256 % 256) (n % 256) (by omega) h1 ?_ (beq_eq_false_iff_ne.2 (by omega)) w
    unfold laid; congr 1; simp only [List.cons.injEq, Value.int.injEq, true_and, and_true]; omega
  by_cases g7 : n < 72057594037927936
  · rw [if_neg g1, if_neg g2, if_neg g3, if_neg g4, if_neg g5, if_neg g6, if_pos g7]
    refine num_7 n (n / 256 / 256 / 256 / 256 / 256 / 256 % 256) (n / 256 / 256 / 256 / 256 / 256 % 256) (n / 256 / 256 / 256 / 256 % 256) (n / 256 / 256 / 256 % 256) (n / 256 / 256 % 256) (n / 256 % 256) (n % 256) (by omega) h1 ?_ (beq_eq_false_iff_ne.2 (by omega)) w
    unfold laid; congr 1; simp only [List.cons.injEq, Value.int.injEq, true_and, and_true]; omega
  rw [if_neg g1, if_neg g2, if_neg g3, if_neg g4, if_neg g5, if_neg g6, if_neg g7]
  refine num_8 n (n / 256 / 256 / 256 / 256 / 256 / 256 / 256 % 256) (n / 256 / 256 / 256 / 256 / 256 / 256 % 256) (n / 256 / 256 / 256 / 256 / 256 % 256) (n / 256 / 256 / 256 / 256 % 256) (n / 256 / 256 / 256 % 256) (n / 256 / 256 % 256) (n / 256 % 256) (n % 256) (by omega) h1 ?_ (beq_eq_false_iff_ne.2 (by omega)) w
  unfold laid; congr 1; simp only [List.cons.injEq, Value.int.injEq, true_and, and_true]; omega

end Go.Proofs.Ytbghjcfepjbppaa.Bt
