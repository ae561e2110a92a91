/-
  WHAT THE ROWS REST ON, part 2: BNum Chk0 Hlaw Cln Frame Bma Bcl Evm Tel Chk1 Chk2 Chk3 Num2.
-/
import Derived.Test.YtbghjcfepjbppaaRows
import Derived.WalkKit
import Derived.WalkSpells
import Derived.WalkLawsBesides
import Derived.Lib.Zigzag
import Derived.Handy
import Derived.Lib.Hide
import Derived.Laws.BytesArg
import Derived.Lib.Strings
import Derived.Lib.UnsafeStr
import Derived.Lib.BufferWrite
import Derived.Laws.MakeOwn
import Derived.ProofKit
import Derived.OpenShut
import Derived.ShutString
import Derived.SizedLaws
import Derived.Laws.Cover2
import Derived.WalkSmall
import Derived.SliceStrings
import Derived.Lib.QuietBelow
import Derived.Deep.AppendLies
import Derived.Deep.RegionLaw
import Derived.Laws.OwnMore
import Derived.BigQuiet
import Derived.Deep.QuietTactic
import Derived.RegionTactic
import Derived.BigRegion
import Derived.Lib.SliceRun
import Derived.Test.YtbghjcfepjbppaaPart1
/-
  THE WALKS OF bits.lay, bits.fold, bits.Num: what each answers, and that nothing that was there has turned.
-/
namespace Go.Proofs.Ytbghjcfepjbppaa.Bt
open Go.RowKit

/-- n's lowest k bytes, the highest first -/
def be : Nat → Int → List Int
  | 0, _ => []
  | k + 1, n => be k (n / 256) ++ [n % 256]
/-- how many bytes n has -/
def wid (n : Int) : Nat := if n < 256 then 1 else if n < 65536 then 2 else if n < 16777216 then 3 else if n < 4294967296 then 4 else if n < 1099511627776 then 5 else if n < 281474976710656 then 6 else if n < 72057594037927936 then 7 else 8
/-- a number's bytes, as the document says -/
def numI (n : Int) : List Int := if n ≤ 247 then [n] else ((247 + wid n : Nat) : Int) :: be (wid n) n
def numS (n : Int) : ByteArray := strOfNums (numI n)

theorem fold_eq (n : Int) (h0 : -9223372036854775808 ≤ n) (h1 : n ≤ 9223372036854775807) :
    bits BinOp.xor IntKind.u64 (IntKind.u64.wrap (IntKind.u64.wrap n * 2)) (IntKind.u64.wrap (n / 9223372036854775808)) = ((Lib.zigzag n : Nat) : Int) := by
  by_cases hn : 0 ≤ n
  · have e1 : n / 9223372036854775808 = 0 := by omega
    have e2 : IntKind.u64.wrap (0 : Int) = ((0 : Nat) : Int) := by decide
    have e3 : IntKind.u64.wrap (IntKind.u64.wrap n * 2) = (((2 * n).toNat : Nat) : Int) := by
      rw [IntKind.wrap_u64, IntKind.wrap_u64]; omega
    rw [e1, e2, e3, bits_xor_u64_nat _ _ (by omega) (by decide), Nat.xor_zero]
    unfold Lib.zigzag; rw [if_pos hn]
  · have e1 : n / 9223372036854775808 = -1 := by omega
    have e2 : IntKind.u64.wrap (-1 : Int) = ((2 ^ 64 - 1 : Nat) : Int) := by decide
    have e3 : IntKind.u64.wrap (IntKind.u64.wrap n * 2) = (((2 * n + 18446744073709551616).toNat : Nat) : Int) := by
      rw [IntKind.wrap_u64, IntKind.wrap_u64]; omega
    rw [e1, e2, e3, bits_xor_u64_nat _ _ (by omega) (by decide), Nat.xor_comm, Lib.xor_ones64 _ (by omega)]
    unfold Lib.zigzag; rw [if_neg hn]; omega
theorem fold_any (n : Int) (h0 : -9223372036854775808 ≤ n) (h1 : n ≤ 9223372036854775807) (w : World) :
    Calls Try.prog 106 #[.int .i64 n] w fun e w' => e = .returned (.int .u64 ((Lib.zigzag n : Nat) : Int)) ∧ w = w' := by
  have H := Lib.hid (fold_eq n h0 h1)
  go_enter Try.func106, Try.ntmps106
  go_wp2
  go_ret
  exact ⟨by rw [← H.out]; rfl, rfl⟩

/-- the nine bytes that lay answers -/
def laid (n : Int) : Array Value := #[.int .u8 0, .int .u8 (n / 256 / 256 / 256 / 256 / 256 / 256 / 256), .int .u8 (n / 256 / 256 / 256 / 256 / 256 / 256 % 256), .int .u8 (n / 256 / 256 / 256 / 256 / 256 % 256), .int .u8 (n / 256 / 256 / 256 / 256 % 256), .int .u8 (n / 256 / 256 / 256 % 256), .int .u8 (n / 256 / 256 % 256), .int .u8 (n / 256 % 256), .int .u8 (n % 256)]
set_option maxRecDepth 100000 in
set_option maxHeartbeats 1000000 in
theorem lay_any (n : Int) (h0 : 0 ≤ n) (h1 : n < 18446744073709551616) (w : World) :
    Calls Try.prog 80 #[.int .u64 n] w fun e w' => e = .returned (.agg (laid n)) ∧ w.alloc (.cells (laid n) 154) = w' := by
  go_enter Try.func80, Try.ntmps80
  go_wp2
  go_rounds 9
  go_returns
  exact ⟨rfl, rfl⟩
theorem lay_cells (cs : Array Value) (n : Int) (h0 : 0 ≤ n) (h1 : n < 18446744073709551616) (hc : laid n = cs) (w : World) :
    Calls Try.prog 80 #[.int .u64 n] w fun e w' => e = .returned (.agg cs) ∧ Below w.heap.size w w' :=
  (lay_any n h0 h1 w).mono fun e w' ⟨he, hw⟩ => ⟨by rw [he, hc], by subst hw; exact (Below.refl _ _).alloc (Nat.le_refl _) _⟩

/-- a new block's bytes as a string, from one of them on -/
theorem conv_new (W : World) (cs : List Value) (xs : List Int) (off : Nat) (h : cs.drop off = xs.map (Value.int .u8)) (len : Nat) (hl : xs.length = len) (t cap : Nat) :
    (convert 153 9 (.slice (some ⟨W.heap.size, off, none⟩) len cap)).run Try.prog (W.alloc (.cells cs.toArray t)) = .ok (.string (strOfNums xs)) (W.alloc (.cells cs.toArray t)) := by
  refine run_convert_bytes_arg (P := Try.prog) _ 153 5 Try.underlying153 Try.underlying5 W.heap.size off len cap xs hl ?_ 9 Try.underlying9
  intro i hi
  rw [World.cell?_alloc_new]
  have e := congrArg (fun l => l[i]?) h
  simp only [List.getElem?_drop, List.getElem?_map] at e
  rw [List.getElem?_toArray, e, List.getElem?_eq_getElem (by omega)]
  simp [List.getD, List.getElem?_eq_getElem (show i < xs.length by omega)]


set_option maxRecDepth 100000 in
set_option maxHeartbeats 1000000 in
theorem num_1 (n c8 : Int) (h0 : 247 < n) (h1 : n < 18446744073709551616) (hc : laid n = #[.int .u8 0, .int .u8 0, .int .u8 0, .int .u8 0, .int .u8 0, .int .u8 0, .int .u8 0, .int .u8 0, .int .u8 c8]) (hz : (c8 == 0) = false) (w : World) :
    Calls Try.prog 57 #[.int .u64 n] w fun e w' => e = .returned (.string (strOfNums [248, c8])) ∧ Below w.heap.size w w' := by
  have Hc := Lib.hid hc
  clear hc
  have hn : ¬ n ≤ 247 := by omega
  have hconv := fun W : World => conv_new W [.int .u8 0, .int .u8 0, .int .u8 0, .int .u8 0, .int .u8 0, .int .u8 0, .int .u8 0, .int .u8 248, .int .u8 c8] [248, c8] 7 rfl 2 rfl 154 2
  go_enter Try.func57, Try.ntmps57
  go_wp2_with (go_at_call 80; refine (lay_cells _ _ (by omega) (by omega) Hc.out _).mono ?_; rintro e w1 ⟨rfl, hb⟩)
  go_rounds 9
  go_ret
  exact ⟨rfl, hb.alloc hb.size _⟩


set_option maxRecDepth 100000 in
set_option maxHeartbeats 1000000 in
theorem num_2 (n c7 c8 : Int) (h0 : 247 < n) (h1 : n < 18446744073709551616) (hc : laid n = #[.int .u8 0, .int .u8 0, .int .u8 0, .int .u8 0, .int .u8 0, .int .u8 0, .int .u8 0, .int .u8 c7, .int .u8 c8]) (hz : (c7 == 0) = false) (w : World) :
    Calls Try.prog 57 #[.int .u64 n] w fun e w' => e = .returned (.string (strOfNums [249, c7, c8])) ∧ Below w.heap.size w w' := by
  have Hc := Lib.hid hc
  clear hc
  have hn : ¬ n ≤ 247 := by omega
  have hconv := fun W : World => conv_new W [.int .u8 0, .int .u8 0, .int .u8 0, .int .u8 0, .int .u8 0, .int .u8 0, .int .u8 249, .int .u8 c7, .int .u8 c8] [249, c7, c8] 6 rfl 3 rfl 154 3
  go_enter Try.func57, Try.ntmps57
  go_wp2_with (go_at_call 80; refine (lay_cells _ _ (by omega) (by omega) Hc.out _).mono ?_; rintro e w1 ⟨rfl, hb⟩)
  go_rounds 9
  go_ret
  exact ⟨rfl, hb.alloc hb.size _⟩


set_option maxRecDepth 100000 in
set_option maxHeartbeats 1000000 in
theorem num_3 (n c6 c7 c8 : Int) (h0 : 247 < n) (h1 : n < 18446744073709551616) (hc : laid n = #[.int .u8 0, .int .u8 0, .int .u8 0, .int .u8 0, .int .u8 0, .int .u8 0, .int .u8 c6, .int .u8 c7, .int .u8 c8]) (hz : (c6 == 0) = false) (w : World) :
    Calls Try.prog 57 #[.int .u64 n] w fun e w' => e = .returned (.string (strOfNums [250, c6, c7, c8])) ∧ Below w.heap.size w w' := by
  have Hc := Lib.hid hc
  clear hc
  have hn : ¬ n ≤ 247 := by omega
  have hconv := fun W : World => conv_new W [.int .u8 0, .int .u8 0, .int .u8 0, .int .u8 0, .int .u8 0, .int .u8 250, .int .u8 c6, .int .u8 c7, .int .u8 c8] [250, c6, c7, c8] 5 rfl 4 rfl 154 4
  go_enter Try.func57, Try.ntmps57
  go_wp2_with (go_at_call 80; refine (lay_cells _ _ (by omega) (by omega) Hc.out _).mono ?_; rintro e w1 ⟨rfl, hb⟩)
  go_rounds 9
  go_ret
  exact ⟨rfl, hb.alloc hb.size _⟩


set_option maxRecDepth 100000 in
set_option maxHeartbeats 1000000 in
theorem num_4 (n c5 c6 c7 c8 : Int) (h0 : 247 < n) (h1 : n < 18446744073709551616) (hc : laid n = #[.int .u8 0, .int .u8 0, .int .u8 0, .int .u8 0, .int .u8 0, .int .u8 c5, .int .u8 c6, .int .u8 c7, .int .u8 c8]) (hz : (c5 == 0) = false) (w : World) :
    Calls Try.prog 57 #[.int .u64 n] w fun e w' => e = .returned (.string (strOfNums [251, c5, c6, c7, c8])) ∧ Below w.heap.size w w' := by
  have Hc := Lib.hid hc
  clear hc
  have hn : ¬ n ≤ 247 := by omega
  have hconv := fun W : World => conv_new W [.int .u8 0, .int .u8 0, .int .u8 0, .int .u8 0, .int .u8 251, .int .u8 c5, .int .u8 c6, .int .u8 c7, .int .u8 c8] [251, c5, c6, c7, c8] 4 rfl 5 rfl 154 5
  go_enter Try.func57, Try.ntmps57
  go_wp2_with (go_at_call 80; refine (lay_cells _ _ (by omega) (by omega) Hc.out _).mono ?_; rintro e w1 ⟨rfl, hb⟩)
  go_rounds 9
  go_ret
  exact ⟨rfl, hb.alloc hb.size _⟩


set_option maxRecDepth 100000 in
set_option maxHeartbeats 1000000 in
theorem num_5 (n c4 c5 c6 c7 c8 : Int) (h0 : 247 < n) (h1 : n < 18446744073709551616) (hc : laid n = #[.int .u8 0, .int .u8 0, .int .u8 0, .int .u8 0, .int .u8 c4, .int .u8 c5, .int .u8 c6, .int .u8 c7, .int .u8 c8]) (hz : (c4 == 0) = false) (w : World) :
    Calls Try.prog 57 #[.int .u64 n] w fun e w' => e = .returned (.string (strOfNums [252, c4, c5, c6, c7, c8])) ∧ Below w.heap.size w w' := by
  have Hc := Lib.hid hc
  clear hc
  have hn : ¬ n ≤ 247 := by omega
  have hconv := fun W : World => conv_new W [.int .u8 0, .int .u8 0, .int .u8 0, .int .u8 252, .int .u8 c4, .int .u8 c5, .int .u8 c6, .int .u8 c7, .int .u8 c8] [252, c4, c5, c6, c7, c8] 3 rfl 6 rfl 154 6
  go_enter Try.func57, Try.ntmps57
  go_wp2_with (go_at_call 80; refine (lay_cells _ _ (by omega) (by omega) Hc.out _).mono ?_; rintro e w1 ⟨rfl, hb⟩)
  go_rounds 9
  go_ret
  exact ⟨rfl, hb.alloc hb.size _⟩


set_option maxRecDepth 100000 in
set_option maxHeartbeats 1000000 in
theorem num_6 (n c3 c4 c5 c6 c7 c8 : Int) (h0 : 247 < n) (h1 : n < 18446744073709551616) (hc : laid n = #[.int .u8 0, .int .u8 0, .int .u8 0, .int .u8 c3, .int .u8 c4, .int .u8 c5, .int .u8 c6, .int .u8 c7, .int .u8 c8]) (hz : (c3 == 0) = false) (w : World) :
    Calls Try.prog 57 #[.int .u64 n] w fun e w' => e = .returned (.string (strOfNums [253, c3, c4, c5, c6, c7, c8])) ∧ Below w.heap.size w w' := by
  have Hc := Lib.hid hc
  clear hc
  have hn : ¬ n ≤ 247 := by omega
  have hconv := fun W : World => conv_new W [.int .u8 0, .int .u8 0, .int .u8 253, .int .u8 c3, .int .u8 c4, .int .u8 c5, .int .u8 c6, .int .u8 c7, .int .u8 c8] [253, c3, c4, c5, c6, c7, c8] 2 rfl 7 rfl 154 7
  go_enter Try.func57, Try.ntmps57
  go_wp2_with (go_at_call 80; refine (lay_cells _ _ (by omega) (by omega) Hc.out _).mono ?_; rintro e w1 ⟨rfl, hb⟩)
  go_rounds 9
  go_ret
  exact ⟨rfl, hb.alloc hb.size _⟩


set_option maxRecDepth 100000 in
set_option maxHeartbeats 1000000 in
theorem num_7 (n c2 c3 c4 c5 c6 c7 c8 : Int) (h0 : 247 < n) (h1 : n < 18446744073709551616) (hc : laid n = #[.int .u8 0, .int .u8 0, .int .u8 c2, .int .u8 c3, .int .u8 c4, .int .u8 c5, .int .u8 c6, .int .u8 c7, .int .u8 c8]) (hz : (c2 == 0) = false) (w : World) :
    Calls Try.prog 57 #[.int .u64 n] w fun e w' => e = .returned (.string (strOfNums [254, c2, c3, c4, c5, c6, c7, c8])) ∧ Below w.heap.size w w' := by
  have Hc := Lib.hid hc
  clear hc
  have hn : ¬ n ≤ 247 := by omega
  have hconv := fun W : World => conv_new W [.int .u8 0, .int .u8 254, .int .u8 c2, .int .u8 c3, .int .u8 c4, .int .u8 c5, .int .u8 c6, .int .u8 c7, .int .u8 c8] [254, c2, c3, c4, c5, c6, c7, c8] 1 rfl 8 rfl 154 8
  go_enter Try.func57, Try.ntmps57
  go_wp2_with (go_at_call 80; refine (lay_cells _ _ (by omega) (by omega) Hc.out _).mono ?_; rintro e w1 ⟨rfl, hb⟩)
  go_rounds 9
  go_ret
  exact ⟨rfl, hb.alloc hb.size _⟩


set_option maxRecDepth 100000 in
set_option maxHeartbeats 1000000 in
theorem num_8 (n c1 c2 c3 c4 c5 c6 c7 c8 : Int) (h0 : 247 < n) (h1 : n < 18446744073709551616) (hc : laid n = #[.int .u8 0, .int .u8 c1, .int .u8 c2, .int .u8 c3, .int .u8 c4, .int .u8 c5, .int .u8 c6, .int .u8 c7, .int .u8 c8]) (hz : (c1 == 0) = false) (w : World) :
    Calls Try.prog 57 #[.int .u64 n] w fun e w' => e = .returned (.string (strOfNums [255, c1, c2, c3, c4, c5, c6, c7, c8])) ∧ Below w.heap.size w w' := by
  have Hc := Lib.hid hc
  clear hc
  have hn : ¬ n ≤ 247 := by omega
  have hconv := fun W : World => conv_new W [.int .u8 255, .int .u8 c1, .int .u8 c2, .int .u8 c3, .int .u8 c4, .int .u8 c5, .int .u8 c6, .int .u8 c7, .int .u8 c8] [255, c1, c2, c3, c4, c5, c6, c7, c8] 0 rfl 9 rfl 154 9
  go_enter Try.func57, Try.ntmps57
  go_wp2_with (go_at_call 80; refine (lay_cells _ _ (by omega) (by omega) Hc.out _).mono ?_; rintro e w1 ⟨rfl, hb⟩)
  go_rounds 9
  go_ret
  exact ⟨rfl, hb.alloc hb.size _⟩


theorem num_0 (n : Int) (h0 : 0 ≤ n) (h1 : n ≤ 247) (w : World) :
    Calls Try.prog 57 #[.int .u64 n] w fun e w' => e = .returned (.string (strOfNums [n])) ∧ Below w.heap.size w w' := by
  have hconv := fun W : World => conv_new W [.int .u8 n] [n] 0 rfl 1 rfl 5 1
  go_enter Try.func57, Try.ntmps57
  go_wp2
  go_ret
  exact ⟨rfl, (Below.refl _ _).alloc (Nat.le_refl _) _⟩


theorem num_any (n : Int) (h0 : 0 ≤ n) (h1 : n < 18446744073709551616) (w : World) :
    Calls Try.prog 57 #[.int .u64 n] w fun e w' => e = .returned (.string (numS n)) ∧ Below w.heap.size w w' := by
  unfold numS numI wid
  by_cases hn : n ≤ 247
  · rw [if_pos hn]; exact num_0 n h0 hn w
  rw [if_neg hn]
  by_cases g1 : n < 256
  · rw [if_pos g1]
    refine num_1 n (n % 256) (by omega) h1 ?_ (beq_eq_false_iff_ne.2 (by omega)) w
    unfold laid; congr 1; simp only [List.cons.injEq, Value.int.injEq, true_and, and_true]; omega
  by_cases g2 : n < 65536
  · rw [if_neg g1, if_pos g2]
    refine num_2 n (n / 256 % 256) (n % 256) (by omega) h1 ?_ (beq_eq_false_iff_ne.2 (by omega)) w
    unfold laid; congr 1; simp only [List.cons.injEq, Value.int.injEq, true_and, and_true]; omega
  by_cases g3 : n < 16777216
  · rw [if_neg g1, if_neg g2, if_pos g3]
    refine num_3 n (n / 256 / 256 % 256) (n / 256 % 256) (n % 256) (by omega) h1 ?_ (beq_eq_false_iff_ne.2 (by omega)) w
    unfold laid; congr 1; simp only [List.cons.injEq, Value.int.injEq, true_and, and_true]; omega
  by_cases g4 : n < 4294967296
  · rw [if_neg g1, if_neg g2, if_neg g3, if_pos g4]
    refine num_4 n (n / 256 / 256 / 256 % 256) (n / 256 / 256 % 256) (n / 256 % 256) (n % 256) (by omega) h1 ?_ (beq_eq_false_iff_ne.2 (by omega)) w
    unfold laid; congr 1; simp only [List.cons.injEq, Value.int.injEq, true_and, and_true]; omega
  by_cases g5 : n < 1099511627776
  · rw [if_neg g1, if_neg g2, if_neg g3, if_neg g4, if_pos g5]
    refine num_5 n (n / 256 / 256 / 256 / 256 % 256) (n / 256 / 256 / 256 % 256) (n / 256 / 256 % 256) (n / 256 % 256) (n % 256) (by omega) h1 ?_ (beq_eq_false_iff_ne.2 (by omega)) w
    unfold laid; congr 1; simp only [List.cons.injEq, Value.int.injEq, true_and, and_true]; omega
  by_cases g6 : n < 281474976710656
  · rw [if_neg g1, if_neg g2, if_neg g3, if_neg g4, if_neg g5, if_pos g6]
    refine num_6 n (n / 256 / 256 / 256 / 256 / 256 % 256) (n / 256 / 256 / 256 / 256 % 256) (n / 256 / 256 / 256 % 256) (n / 256 / 256 % 256) (n / 256 % 256) (n % 256) (by omega) h1 ?_ (beq_eq_false_iff_ne.2 (by omega)) w
    unfold laid; congr 1; simp only [List.cons.injEq, Value.int.injEq, true_and, and_true]; omega
  by_cases g7 : n < 72057594037927936
  · rw [if_neg g1, if_neg g2, if_neg g3, if_neg g4, if_neg g5, if_neg g6, if_pos g7]
    refine num_7 n (n / 256 / 256 / 256 / 256 / 256 / 256 % 256) (n / 256 / 256 / 256 / 256 / 256 % 256) (n / 256 / 256 / 256 / 256 % 256) (n / 256 / 256 / 256 % 256) (n / 256 / 256 % 256) (n / 256 % 256) (n % 256) (by omega) h1 ?_ (beq_eq_false_iff_ne.2 (by omega)) w
    unfold laid; congr 1; simp only [List.cons.injEq, Value.int.injEq, true_and, and_true]; omega
  rw [if_neg g1, if_neg g2, if_neg g3, if_neg g4, if_neg g5, if_neg g6, if_neg g7]
  refine num_8 n (n / 256 / 256 / 256 / 256 / 256 / 256 / 256 % 256) (n / 256 / 256 / 256 / 256 / 256 / 256 % 256) (n / 256 / 256 / 256 / 256 / 256 % 256) (n / 256 / 256 / 256 / 256 % 256) (n / 256 / 256 / 256 % 256) (n / 256 / 256 % 256) (n / 256 % 256) (n % 256) (by omega) h1 ?_ (beq_eq_false_iff_ne.2 (by omega)) w
  unfold laid; congr 1; simp only [List.cons.injEq, Value.int.injEq, true_and, and_true]; omega

end Go.Proofs.Ytbghjcfepjbppaa.Bt
/-
  THE PAGE's EXAMPLE: an event without fields, checked and written; awake.
-/
namespace Go.Proofs.Ytbghjcfepjbppaa
open Go.RowKit
@[go_sem] theorem run_store_float {P : Program} {w : World} {a : Addr} {m : Mode} (k : FloatKind) (b : Nat) : (store a (.float k b) m).run P w = stored P w a (.float k b) m := run_store P w a _ m rfl
theorem fields_nil (w : World) : Calls Try.prog 71 #[.slice none 0 0] w fun e w' => e = .returned (.bool true) ∧ w = w' := by
  go_enter Try.func71, Try.ntmps71
  go_wp2_with fail
  go_rounds 1
  go_ret
  exact ⟨rfl, rfl⟩
def evA : Value := .agg #[.int .i64 0, .int .i64 0, .int .i64 0, .string ⟨#[97]⟩, .slice none 0 0]
theorem check_a (w : World) : Calls Try.prog 41 #[evA] w fun e w' => e = .returned (.int .i64 0) ∧ Below w.heap.size w w' := by
  have N := number_any 0
  rw [show numB 0 = true by decide] at N
  have W := word_any ⟨#[97]⟩ (by decide)
  rw [show wordB ⟨#[97]⟩ = true by decide +kernel] at W
  have FIN := Lib.hid ((Below.refl _ w).alloc (Nat.le_refl _) (.cells #[.int .i64 0, .int .i64 0, .int .i64 0, .string ⟨#[97]⟩, .slice none 0 0] 31))
  unfold evA
  go_enter Try.func41, Try.ntmps41
  go_wp2_with fail
  refine (N _).mono ?_
  rintro e w1 ⟨rfl, rfl⟩
  go_wp2_with fail
  refine (N _).mono ?_
  rintro e w1 ⟨rfl, rfl⟩
  go_wp2_with fail
  refine (N _).mono ?_
  rintro e w1 ⟨rfl, rfl⟩
  go_wp2_with fail
  refine (W _).mono ?_
  rintro e w1 ⟨rfl, rfl⟩
  go_wp2_with fail
  refine (fields_nil _).mono ?_
  rintro e w1 ⟨rfl, rfl⟩
  go_wp2_with fail
  go_ret
  exact ⟨rfl, FIN.out⟩
theorem num_0 (w : World) : Calls Try.prog 57 #[.int .u64 0] w fun e w' => e = .returned (.string ⟨#[0]⟩) ∧ Below w.heap.size w w' := Bt.num_any 0 (by decide) (by decide) w
theorem text_a (w : World) : Calls Try.prog 87 #[.string ⟨#[97]⟩] w fun e w' => e = .returned (.string ⟨#[1, 97]⟩) ∧ Below w.heap.size w w' := by
  have N : Hid (∀ w, Calls Try.prog 57 #[.int .u64 1] w fun e w' => e = .returned (.string ⟨#[1]⟩) ∧ Below w.heap.size w w') := Lib.hid (fun w => Bt.num_any 1 (by decide) (by decide) w)
  go_enter Try.func87, Try.ntmps87
  go_wp2_with fail
  refine (N.out _).mono ?_
  rintro e w1 ⟨rfl, b1⟩
  have B1 := Lib.hid b1
  clear b1
  go_wp2_with fail
  go_ret
  exact ⟨rfl, B1.out⟩
set_option maxHeartbeats 1000000 in
theorem encode_a (w : World) : Calls Try.prog 86 #[evA] w fun e w' => e = .returned (.tuple #[.string ⟨#[0, 0, 0, 1, 97, 0]⟩, .int .i64 0]) ∧ Below w.heap.size w w' := by
  obtain ⟨w1, hw1, B1, K1⟩ : ∃ w1, w1 = w.alloc (.cells #[.int .i64 0, .int .i64 0, .int .i64 0, .string ⟨#[97]⟩, .slice none 0 0] 31) ∧ Below w.heap.size w w1 ∧ w1.heap[w.heap.size]? = some (.cells #[.int .i64 0, .int .i64 0, .int .i64 0, .string ⟨#[97]⟩, .slice none 0 0] 31 (0, 0)) :=
    ⟨_, rfl, (Below.refl _ w).alloc (Nat.le_refl _) _, heap_alloc_new w _⟩
  have CH := Lib.hid check_a
  unfold evA at CH ⊢
  have W1 := Lib.hid hw1
  have B1h := Lib.hid B1
  have K1h := Lib.hid K1
  have c0 : w1.cell? ⟨w.heap.size, 0, none⟩ = some (.int .i64 0) := cell_of_row _ _ 0 _ _ _ K1
  have c1 : w1.cell? ⟨w.heap.size, 1, none⟩ = some (.int .i64 0) := cell_of_row _ _ 1 _ _ _ K1
  have c2 : w1.cell? ⟨w.heap.size, 2, none⟩ = some (.int .i64 0) := cell_of_row _ _ 2 _ _ _ K1
  have c3 : w1.cell? ⟨w.heap.size, 3, none⟩ = some (.string ⟨#[97]⟩) := cell_of_row _ _ 3 _ _ _ K1
  have c4 : w1.cell? ⟨w.heap.size, 4, none⟩ = some (.slice none 0 0) := cell_of_row _ _ 4 _ _ _ K1
  clear hw1 B1 K1
  generalize hy : w.heap.size = Y at *
  go_enter Try.func86, Try.ntmps86
  go_wp2_with fail
  rw [← W1.out]
  go_wp2_with fail
  refine (CH.out _).mono ?_
  rintro e w2 ⟨rfl, b2⟩
  have hyl : Y < w1.heap.size := World.block_lt_of_cell? _ _ c0
  have e : ∀ {o : Nat} {v : Value}, w1.cell? ⟨Y, o, none⟩ = some v → w2.cell? ⟨Y, o, none⟩ = some v := fun hc => by rw [b2.cell (p := ⟨_, _, none⟩) hyl]; exact hc
  have d0 := e c0
  have d1 := e c1
  have d2 := e c2
  have d3 := e c3
  have d4 := e c4
  have B2h := Lib.hid (B1h.out.trans (b2.mono (by have := B1h.out.size; omega)))
  clear e b2 c0 c1 c2 c3 c4 K1h
  go_wp2_with fail
  have x0 := fun d os => cell_regrown d0 d os
  have x1 := fun d os => cell_regrown d1 d os
  have x2 := fun d os => cell_regrown d2 d os
  have x3 := fun d os => cell_regrown d3 d os
  have C1 := Lib.hid (fun d os => Calls.regrown_of (d := d) (os := os) (num_0 (Go.Sort.grow (redrawn w2 d) os)))
  have C2 := Lib.hid (fun d os => Calls.regrown_of (d := d) (os := os) (text_a (Go.Sort.grow (redrawn w2 d) os)))
  refine wp_region_quiet_below mixed (by kernel_rfl) ?_
  repeat (quiet_step (first | (exact C1.out _ _) | (exact C2.out _ _)))
  refine wpQuiet_nil ?_
  intro _ hw'
  obtain ⟨⟨dq, osq⟩, hw''⟩ := hw'
  subst hw''
  have y4 := cell_regrown d4 dq osq
  have B3h := Lib.hid (B2h.out.trans ((below_regrown w2 dq osq).mono (by have := B2h.out.size; omega)))
  generalize Go.Sort.grow (redrawn w2 dq) osq = w3 at *
  clear x0 x1 x2 x3 d0 d1 d2 d3 d4 C1 C2
  go_wp2_with fail
  refine (num_0 _).mono ?_
  rintro e w4 ⟨rfl, b4⟩
  have z4 : w4.cell? ⟨Y, 4, none⟩ = some (.slice none 0 0) := by rw [b4.cell (p := ⟨_, _, none⟩) (World.block_lt_of_cell? _ _ y4)]; exact y4
  have B4h := Lib.hid (B3h.out.trans (b4.mono (by have := B3h.out.size; omega)))
  clear b4 y4
  go_wp2_with fail
  go_rounds 1
  go_ret2
  exact ⟨rfl, B4h.out⟩
def vI (n : Int) : Val := ⟨1, n, 0, ⟨#[]⟩⟩
def vF (f : Nat) : Val := ⟨2, 0, f, ⟨#[]⟩⟩
theorem wfI (n : Int) (h0 : -9223372036854775808 ≤ n) (h1 : n ≤ 9223372036854775807) : (vI n).Wf := ⟨by simp [vI], h0, h1, by simp [vI]⟩
theorem wfF (f : Nat) (h : f < 18446744073709551616) : (vF f).Wf := ⟨by simp [vF], by simp [vF], by simp [vF], h⟩
theorem ex1 : opS 5 (stV (vI 9007199254740993) (vF 4845873199050653696)) = true := by decide +kernel
theorem ex2 : opS 1 (stV (vI 1) (vF 4607182418800017408)) = true := by decide +kernel
end Go.Proofs.Ytbghjcfepjbppaa
/-
  THE LAWS EventHolds, EventOrder AS WALKS.
-/
namespace Go.Proofs.Ytbghjcfepjbppaa
open Go.RowKit
theorem opS3 (s : Int) (h : s = 0 ∨ s = 1 ∨ s = 2 ∨ s = 3 ∨ s = 4) : (opS 3 s = decide (s = 2)) ∧ (opS 1 s = decide (s = 3)) ∧ (opS 5 s = decide (s = 4)) := by
  rcases h with rfl | rfl | rfl | rfl | rfl <;> decide
end Go.Proofs.Ytbghjcfepjbppaa
/-
  A STRING IS COPIED: strings.Clone.
-/
namespace Go.Proofs.Ytbghjcfepjbppaa
open Go.RowKit
theorem info5 : (Try.prog.info? 5).map (fun i => (i.zero, i.size, i.bytes)) = some (some (.int .u8 0), 1, 1) := by kernel_rfl
set_option maxHeartbeats 4000000 in
set_option maxRecDepth 100000 in
theorem lite_clone (s : ByteArray) (w : World) (hlim : s.size ≤ 281474976710656) : Calls Try.prog 78 #[.string s] w fun e w' => e = .returned (.string s) ∧ Below w.heap.size w w' := by
  by_cases h0 : s.size = 0
  · have hs : s = ⟨#[]⟩ := ByteArray.ext (Array.eq_empty_of_size_eq_zero h0)
    subst hs
    go_enter Try.func78, Try.ntmps78
    go_wp2_with fail
    go_ret
    exact ⟨rfl, Below.refl _ _⟩
  · obtain ⟨i0, hi, hz0, hz1, hz2⟩ := info_parts info5
    have hinfo : (Try.prog.info? 5).map (·.size) = some 1 := by rw [hi]; simp [hz1]
    have hco : Try.prog.cellsOf 5 = 1 := by simp [Program.cellsOf, hi, hz1]
    obtain ⟨M, hM⟩ : ∃ M, M = madeCells (Value.int .u8 0).cells (((s.size : Nat) : Int).toNat * i0.size) := ⟨_, rfl⟩
    have hMs : M.size = s.size := by rw [hM, size_madeCells, hz1]; simp
    have hmk : ∀ W : World, (Instr.makeSlice 153 (.int .i64 (s.size : Int)) (.int .i64 (s.size : Int))).run Try.prog W = .ok (.slice (some ⟨W.heap.size, 0, none⟩) s.size s.size) (W.alloc (.cells M 5)) := fun W => by
      have h := run_make (P := Try.prog) W 153 5 i0 (.int .u8 0) Try.underlying153 hi hz0 .i64 .i64 (s.size : Int) (s.size : Int) (by omega) (by omega) (by rw [hz2]; omega) (by omega)
      rw [← hM] at h
      simpa using h
    clear hM
    have hcp := Lib.run_copy_row_string (P := Try.prog) (w.alloc (.cells M 5)) 153 9 3 5 w.heap.size 0 s.size s.size s M 5 Try.underlying153 hinfo (heap_alloc_new w _) (Nat.le_refl _) (by omega)
    obtain ⟨Y, hY⟩ : ∃ Y, Y = (M.toList.take 0 ++ Lib.byteCells s.data.toList ++ M.toList.drop (0 + s.size)).toArray := ⟨_, rfl⟩
    rw [← hY] at hcp
    have hYl : Y.toList = Lib.byteCells s.data.toList := by
      rw [hY, List.toList_toArray, List.take_zero, List.nil_append, List.drop_of_length_le (by rw [Array.length_toList]; omega), List.append_nil]
    have hYs : Y.size = s.size := by rw [← Array.length_toList, hYl, Lib.byteCells_length, ← Lib.size_eq]
    have hgY : ((w.alloc (.cells M 5)).setRow w.heap.size Y).heap[w.heap.size]? = some (.cells Y 5 (0, 0)) := setRow_heap _ _ M _ 5 (0, 0) (heap_alloc_new w _)
    have hne : s.data.toList ≠ [] := fun e => h0 (by rw [Lib.size_eq, e]; rfl)
    have hUS := Lib.run_unsafeString_row (P := Try.prog) ((w.alloc (.cells M 5)).setRow w.heap.size Y) 167 3 9 5 Try.underlying167 hco w.heap.size Y.size (by unfold World.shape?; rw [hgY]) s.data.toList hne (by rw [← Lib.size_eq]; omega) (by
      rw [← Lib.size_eq]; omega) (fun j x hx => Lib.cells_of_row hgY Y.size j _ (by rw [List.take_of_length_le (by rw [Array.length_toList]; exact Nat.le_refl _), hYl]; simp [Lib.byteCells, hx]))
    rw [← Lib.size_eq] at hUS
    clear hY
    go_enter Try.func78, Try.ntmps78
    go_wp2_with fail
    go_ret
    have hb1 : Below w.heap.size w (w.alloc (.cells M 5)) := (Below.refl _ w).alloc (Nat.le_refl _) _
    have hb2 : Below w.heap.size (w.alloc (.cells M 5)) ((w.alloc (.cells M 5)).setRow w.heap.size Y) := ⟨rfl, rfl, rfl, by simp, fun k hk => setRow_other _ _ _ _ (by omega)⟩
    exact ⟨rfl, Lib.below_freeze (hb1.trans hb2) (p := ⟨w.heap.size, 0, none⟩) (Nat.le_refl _) _⟩
theorem str_clone (s : ByteArray) (w : World) (hlim : s.size ≤ 281474976710656) : Calls Try.prog 53 #[.string s] w fun e w' => e = .returned (.string s) ∧ Below w.heap.size w w' := by
  go_enter Try.func53, Try.ntmps53
  go_wp2_with fail
  refine (lite_clone s w hlim).mono ?_
  rintro e w1 ⟨rfl, b1⟩
  go_wp2_with fail
  go_ret
  exact ⟨rfl, b1⟩
end Go.Proofs.Ytbghjcfepjbppaa
/-
  FOR THE ROWS: whatever the arguments' types: a law that answers true, and below whose heap's old end nothing has turned, leaves each argument as it read.
-/
namespace Go.Proofs.Ytbghjcfepjbppaa
open Go.ChangeShapes Go.WideShapes Go.ChangeAt Go.RowKit
theorem own : ownKnob Try.prog.godebug = none := by kernel_rfl
theorem laidOut : laidOutB Try.prog = true := by kernel_rfl
section
variable {H : Type} {enc : TypeId × Value → H} {P : Program}
theorem trodAll_below (hl : laidOutB P = true) {W W' : World} (hb : Below W.heap.size W W') : ∀ (ts : List TypeId) (vs : List Value) (ds : List (DataW H)) (ps : List MemPlace),
    (∀ t ∈ ts, P.readableRec t = true ∧ t < P.types.size) → DataW.TrodAll enc P W 0 (fun _ => true) true ts vs ds ps → (∀ x ∈ ps, x.block < W.heap.size) →
    DataW.TrodAll enc P W' 0 (fun b => decide (b < W.heap.size)) true ts vs ds ps
  | [], vs, ds, ps, _, h, _ => by
    obtain ⟨rfl, rfl, rfl⟩ := trodAll_nil h
    exact trodAll_mk0
  | t :: ts, vs, ds, ps, hr, h, hlt => by
    obtain ⟨v, vs', d, ds', p, q, rfl, rfl, rfl, h0, h1⟩ := trodAll_cons h
    exact trodAll_cons_mk (Below.trod hl (hr t (by simp)).1 (hr t (by simp)).2 h0 hb (fun x hx => hlt x (by simp [hx])))
      (trodAll_below hl hb ts vs' ds' q (fun u hu => hr u (by simp [hu])) h1 (fun x hx => hlt x (by simp [hx])))
/-- the end of every law's row -/
theorem law_post {f : Func} {s : ChangeSpec} {tb : TypeId} {apart fresh handsOn : Bool} {W W' : World} {args : Array Value} {ds : List (DataW H)} {before pa : List MemPlace}
    (hl : laidOutB P = true) (hr : ∀ t ∈ f.params.toList, P.readableRec t = true ∧ t < P.types.size) (hv : s.vars = []) (ht : f.resultTypes = #[tb]) (hb : P.underlying tb = some .bool)
    (hfn : s.fn H (ds ++ []) = { results := [.lit (.bool true)], args := ds })
    (hW : DataW.Whole enc P f.params.toList s.vars apart W args.toList ds [] before)
    (hA : DataW.TrodAll enc P W 0 (fun _ => true) true f.params.toList args.toList ds pa)
    (hlt : ∀ x ∈ pa, x.block < W.heap.size) (hk : Below W.heap.size W W') :
    s.post enc P f apart fresh handsOn false W args (.bool true) W' := by
  refine ⟨ds, [], before, [], pa, [], hW, ?_, ?_, ?_, hk.frame _, fun h => by cases h⟩
  · rw [ht, hfn]
    exact trodAll_cons_mk (shut_bool hb _) trodAll_mk0
  · rw [hfn]
    exact trodAll_below hl hk _ _ _ _ hr hA hlt
  · rw [hv, hfn]
    rfl
end
end Go.Proofs.Ytbghjcfepjbppaa
/-
  The book: numbers in memory; may (26).
-/
namespace Go.Proofs.Ytbghjcfepjbppaa.Bk
open Go.RowKit
/-- numbers that can be read -/
def Nums (w : World) (a : Option Addr) (xs : List Int) : Prop := ∀ i (h : i < xs.length), ∃ g o, a = some ⟨g, o, none⟩ ∧ g < w.heap.size ∧ w.cell? ⟨g, o + i, none⟩ = some (.int .i64 xs[i])
theorem Nums.next {w w' : World} {a : Option Addr} {xs : List Int} (h : Nums w a xs) (hb : Below w.heap.size w w') : Nums w' a xs := fun i hi => by
  obtain ⟨g, o, e, hg, c⟩ := h i hi
  exact ⟨g, o, e, Nat.lt_of_lt_of_le hg hb.size, by rw [hb.cell (p := ⟨g, _, none⟩) hg]; exact c⟩
/-- they rise, from behind one on, and none is too great -/
def upB : Int → List Int → Bool
  | _, [] => true
  | z, p :: r => !(decide (p ≤ z) || decide (549755813888 < p)) && upB p r
/-- a match may be -/
def mayB (xs : List Int) : Bool := !(decide (xs.length < 1) || decide (16 < xs.length)) && upB (-1) xs
set_option maxHeartbeats 4000000 in
set_option maxRecDepth 100000 in
theorem may_any {w : World} {a : Option Addr} {xs : List Int} (c : Nat) (h : Nums w a xs) (hl : xs.length ≤ 9223372036854775807) : Calls Try.prog 63 #[.agg #[.slice a xs.length c]] w fun e w' => e = .returned (.bool (mayB xs)) ∧ Below w.heap.size w w' := by
  obtain ⟨W, hW⟩ : ∃ W, W = w.alloc (.cells #[.slice a xs.length c] 70) := ⟨_, rfl⟩
  have bW : Below w.heap.size w W := by rw [hW]; exact (Below.refl _ w).alloc (Nat.le_refl _) _
  have cW : W.cell? ⟨w.heap.size, 0, none⟩ = some (.slice a xs.length c) := by rw [hW, World.cell?_alloc_new]; rfl
  have NW := Lib.hid (h.next bW)
  have BW := Lib.hid bW
  have HW := Lib.hid hW
  have hlI : (xs.length : Int) ≤ 9223372036854775807 := by omega
  clear h hW bW
  obtain ⟨m, hm⟩ : ∃ m, m = mayB xs := ⟨_, rfl⟩
  have HM := Lib.hid hm
  rw [← hm]
  clear hm
  by_cases h1 : xs.length < 1
  · have h1I : (xs.length : Int) < 1 := by omega
    have h1B := decide_eq_true h1I
    have RH : m = false := by rw [HM.out]; unfold mayB; rw [decide_eq_true h1]; rfl
    subst RH
    go_enter Try.func63, Try.ntmps63
    go_wp2_with (rw [← HW.out])
    go_ret
    exact ⟨rfl, BW.out⟩
  have h1I : ¬ (xs.length : Int) < 1 := by omega
  have h1B := decide_eq_false h1I
  by_cases h2 : 16 < xs.length
  · have h2I : 16 < (xs.length : Int) := by omega
    have h2B := decide_eq_true h2I
    have RH : m = false := by rw [HM.out]; unfold mayB; rw [decide_eq_true h2, Bool.or_true]; rfl
    subst RH
    go_enter Try.func63, Try.ntmps63
    go_wp2_with (rw [← HW.out])
    go_ret
    exact ⟨rfl, BW.out⟩
  have h2I : ¬ 16 < (xs.length : Int) := by omega
  have h2B := decide_eq_false h2I
  have MU : Hid (m = upB (-1) xs) := Lib.hid (by rw [HM.out]; unfold mayB; rw [decide_eq_false h1, decide_eq_false h2]; rfl)
  clear HM
  go_enter Try.func63, Try.ntmps63
  go_wp2_with (rw [← HW.out])
  go_loopw [19, 3] (fun i z wq => ∃ (k : Nat) (y : Int), i = .int .i64 k ∧ z = .int .i64 y ∧ k ≤ xs.length ∧ wq = W ∧ Hid (m = upB y (xs.drop k))) (fun i _ _ => xs.length - (intOf i).toNat)
  case atStart => exact ⟨0, -1, rfl, rfl, Nat.zero_le _, rfl, MU⟩
  case round =>
    obtain ⟨k, y, rfl, rfl, hk, rfl, M⟩ := hrel
    by_cases hlt : k < xs.length
    rotate_left
    · have hkI : ¬ (k : Int) < (xs.length : Int) := by omega
      have hkB := decide_eq_false hkI
      have RH : m = true := by rw [M.out, List.drop_eq_nil_of_le (by omega)]; rfl
      subst RH
      go_wp2_with fail
      go_ret
      exact ⟨rfl, BW.out⟩
    have hkI : (k : Int) < (xs.length : Int) := by omega
    have hkB := decide_eq_true hkI
    obtain ⟨g, o, rfl, hg, ck⟩ := NW.out k hlt
    have M2 : m = (!(decide (xs[k] ≤ y) || decide (549755813888 < xs[k])) && upB xs[k] (xs.drop (k + 1))) := by rw [M.out, List.drop_eq_getElem_cons hlt]; rfl
    have HK := Lib.hid (show k + 1 ≤ xs.length by omega)
    clear M
    generalize xs[k] = p at *
    by_cases g1 : p ≤ y
    · have g1B := decide_eq_true g1
      have RH : m = false := by rw [M2, g1B]; rfl
      clear M2
      subst RH
      go_wp2_with fail
      go_ret
      exact ⟨rfl, BW.out⟩
    have g1B := decide_eq_false g1
    by_cases g2 : 549755813888 < p
    · have g2B := decide_eq_true g2
      have RH : m = false := by rw [M2, g2B, Bool.or_true]; rfl
      clear M2
      subst RH
      go_wp2_with fail
      go_ret
      exact ⟨rfl, BW.out⟩
    have g2B := decide_eq_false g2
    have M3 := Lib.hid (show m = upB p (xs.drop (k + 1)) by rw [M2, g1B, g2B]; rfl)
    clear M2
    go_wp2_with fail
    go_roundw
    case rel => exact ⟨k + 1, p, by go_num, rfl, HK.out, by trivial, M3⟩
    case measure => simp [intOf]; omega
end Go.Proofs.Ytbghjcfepjbppaa.Bk
/-
  The book: slices.Clone of numbers (38).
-/
namespace Go.Proofs.Ytbghjcfepjbppaa.Bk
open Go.RowKit
/-- numbers of the call's own -/
def OwnN (w : World) (B : Nat) (v : Value) (xs : List Int) : Prop := w.ownsRow B 3 1 v xs.length (xs.map (Value.int .i64))
theorem OwnN.nums {w : World} {B : Nat} {v : Value} {xs : List Int} (h : OwnN w B v xs) : ∃ a c, v = .slice a xs.length c ∧ Nums w a xs := by
  have h0 := h
  unfold OwnN at h0
  rcases h.2 with ⟨rfl, e⟩ | ⟨g, cap, cur, rfl, hb, hg, _⟩
  · have : xs = [] := List.length_eq_zero_iff.1 e
    subst this
    exact ⟨none, 0, rfl, fun i hi => by simp at hi⟩
  · refine ⟨_, _, rfl, fun p hp => ⟨g, 0, rfl, (Array.getElem?_eq_some_iff.1 hg).1, ?_⟩⟩
    rw [Nat.zero_add, h0.cellAt _ (by omega)]
    simp [hp]
/-- what a copy leaves -/
def Cln (w : World) (L : List Int) (e : Ending) (w' : World) : Prop := ∃ v', e = .returned v' ∧ OwnN w' w.heap.size v' L ∧ Below w.heap.size w w'
theorem info3 : (Try.prog.info? 3).map (fun i => (i.zero, i.size, i.bytes)) = some (some (.int .i64 0), 1, 8) := by kernel_rfl
set_option maxHeartbeats 4000000 in
set_option maxRecDepth 100000 in
theorem clone_any {w : World} {a : Option Addr} {L : List Int} (c : Nat) (h : Nums w a L) (hl : L.length ≤ 1000) : Calls Try.prog 79 #[.slice a L.length c] w (Cln w L) := by
  obtain ⟨i0, hi, hz0, hz1, hz2⟩ : ∃ i, Try.prog.info? 3 = some i ∧ i.zero = some (.int .i64 0) ∧ i.size = 1 ∧ i.bytes = 8 := by
    have h3 := info3
    cases e : Try.prog.info? 3 with
    | none => rw [e] at h3; cases h3
    | some i => rw [e] at h3; simp only [Option.map_some, Option.some.injEq, Prod.mk.injEq] at h3; exact ⟨i, rfl, h3.1, h3.2.1, h3.2.2⟩
  have q29 : ∀ (w : World) (a : Option Addr) (n c n' c' : Nat), (binOp .eql 55 (.slice a n c) (.slice none n' c')).run Try.prog w = .ok (.bool a.isNone) w := fun w a n c n' c' => Lib.run_eql_slice_nil w _ _ a n c n' c' Try.underlying55
  cases a with
  | none =>
    have hL : L = [] := by
      cases L with
      | nil => rfl
      | cons x r => obtain ⟨g, o, e, _⟩ := h 0 (by simp); cases e
    subst hL
    have FIN := Lib.hid (show Cln w [] (.returned (.slice none 0 0)) w from ⟨_, rfl, World.ownsRow_nil _ _ _ _, Below.refl _ _⟩)
    generalize Cln w [] = Q at *
    clear h
    go_enter Try.func79, Try.ntmps79
    go_wp2_with fail
    exact FIN.out
  | some ad =>
    obtain ⟨W1, hW1⟩ : ∃ W1, W1 = w.alloc (.cells #[] 3) := ⟨_, rfl⟩
    have O1 : W1.ownsRow w.heap.size 3 1 (.slice (some ⟨w.heap.size, 0, none⟩) 0 0) 0 [] := by rw [hW1]; exact World.ownsRow_made w #[] 0 (Nat.le_refl _) (Nat.zero_le _) rfl
    have b1 : Below w.heap.size w W1 := by rw [hW1]; exact (Below.refl _ w).alloc (Nat.le_refl _) _
    have G1 := h.next b1
    have N1 : ∀ j u, (L.map (Value.int .i64))[j]? = some u → W1.cell? (ad.add j) = some u := by
      intro j u hj
      rw [List.getElem?_map] at hj
      obtain ⟨x, hx, rfl⟩ := Option.map_eq_some_iff.1 hj
      obtain ⟨hjl, rfl⟩ := List.getElem?_eq_some_iff.1 hx
      obtain ⟨g, o, e, hg, ck⟩ := G1 j hjl
      cases e
      rw [show (⟨g, o, none⟩ : Addr).add j = ⟨g, o + j, none⟩ by unfold Addr.add; split <;> simp_all]
      exact ck
    have FIN : Hid (∀ v' w1, w1.ownsRow w.heap.size 3 1 v' (0 + L.length) ([] ++ L.map (Value.int .i64)) → W1.grownBy w1 (Value.slice (some ⟨w.heap.size, 0, none⟩) 0 0).ownBlock → Cln w L (.returned v') w1) := Lib.hid fun v' w1 ho hg => by
      rw [Nat.zero_add, List.nil_append] at ho
      exact ⟨v', rfl, ho, b1.trans ⟨hg.os, hg.tape, hg.output, hg.size, fun q hq => hg.block q (Nat.lt_of_lt_of_le hq b1.size) (fun e => absurd (show q = w.heap.size by simpa [Value.ownBlock] using e) (Nat.ne_of_lt hq))⟩⟩
    have hz : W1.heap.size = w.heap.size + 1 := by rw [hW1]; simp
    have HN := Lib.hid N1
    have HO := Lib.hid O1
    have HW := Lib.hid hW1
    have HL : Hid ((L.map (Value.int .i64)).length = L.length * 1) := Lib.hid (by simp)
    have H1 : Hid (∀ u ∈ L.map (Value.int .i64), u.oneCell' = true) := Lib.hid (fun u hu => by obtain ⟨x, _, rfl⟩ := List.mem_map.1 hu; rfl)
    have hl2 : (L.length : Int) ≤ 1000 := by omega
    clear h O1 b1 G1 N1 hW1
    generalize L.map (Value.int .i64) = cl at *
    generalize L.length = n at *
    generalize Cln w L = Q at *
    go_enter Try.func79, Try.ntmps79
    go_wp2_with (at_builtin; rw [← HW.out]; refine wpList_append_own _ rfl _ _ 55 rfl w.heap.size 3 i0 _ 1 8 Try.underlying55 hi hz0 hz1 hz2 rfl (by decide) _ 0 [] rfl HO.out ad n c cl rfl HL.out HN.out H1.out (by unfold maxLen; omega) (by omega) (by omega) ?_; intro v' w1 ho hg2 _)
    all_goals exact FIN.out v' w1 ho hg2
end Go.Proofs.Ytbghjcfepjbppaa.Bk
/-
  FIELDS IN MEMORY; AN EVENT AS THE DOCUMENT HAS IT: Ref.
-/
namespace Go.Proofs.Ytbghjcfepjbppaa
open Go.RowKit
structure Fld where
  nm : ByteArray
  v : Val
def encF (x : Fld) : List Value := [.string x.nm, .int .i64 x.v.k, .int .i64 x.v.n, .float .f64 x.v.f, .string x.v.s]
def cellsF (l : List Fld) : List Value := l.flatMap encF
theorem cellsF_one (l : List Fld) (x : Fld) : cellsF (l ++ [x]) = cellsF l ++ encF x := by unfold cellsF; rw [List.flatMap_append]; simp
theorem cellsF_get : ∀ {l : List Fld} {k : Nat} (h : k < l.length) (j : Nat), j < 5 → (cellsF l)[k * 5 + j]? = (encF l[k])[j]?
  | x :: l, 0, _, j, hj => by
    show (encF x ++ cellsF l)[0 * 5 + j]? = _
    rw [Nat.zero_mul, Nat.zero_add, List.getElem?_append_left (show j < (encF x).length from hj)]; rfl
  | x :: l, k + 1, h, j, hj => by
    have ih := cellsF_get (l := l) (k := k) (by simpa using h) j hj
    show (encF x ++ cellsF l)[(k + 1) * 5 + j]? = _
    have e : (encF x).length = 5 := rfl
    rw [List.getElem?_append_right (by omega), e, show (k + 1) * 5 + j - 5 = k * 5 + j by omega]
    exact ih
/-- fields in memory -/
def Flds (w : World) (a : Option Addr) (L : List Fld) : Prop := ∀ p (h : p < L.length), ∃ g o, a = some ⟨g, o, none⟩ ∧ g < w.heap.size ∧
  w.cell? ⟨g, o + p * 5, none⟩ = some (.string L[p].nm) ∧ w.cell? ⟨g, o + p * 5 + 1, none⟩ = some (.int .i64 L[p].v.k) ∧ w.cell? ⟨g, o + p * 5 + 2, none⟩ = some (.int .i64 L[p].v.n) ∧ w.cell? ⟨g, o + p * 5 + 3, none⟩ = some (.float .f64 L[p].v.f) ∧ w.cell? ⟨g, o + p * 5 + 4, none⟩ = some (.string L[p].v.s)
theorem Flds.below {w w' : World} {a : Option Addr} {L : List Fld} (h : Flds w a L) (hb : Below w.heap.size w w') : Flds w' a L := fun p hp => by
  obtain ⟨g, o, e, hl, c0, c1, c2, c3, c4⟩ := h p hp
  have q : ∀ {i : Nat} {v : Value}, w.cell? ⟨g, i, none⟩ = some v → w'.cell? ⟨g, i, none⟩ = some v := fun hc => by rw [hb.cell (p := ⟨g, _, none⟩) hl]; exact hc
  exact ⟨g, o, e, Nat.lt_of_lt_of_le hl hb.size, q c0, q c1, q c2, q c3, q c4⟩
theorem flds_own {w : World} {B t g cap n : Nat} {l : List Fld} (hn : n = l.length) (h : w.ownsRow B t 5 (.slice (some ⟨g, 0, none⟩) n cap) n (cellsF l)) : Flds w (some ⟨g, 0, none⟩) l := fun p hp => by
  have hg : g < w.heap.size := (World.ownsRow.lt h g rfl).2
  subst hn
  refine ⟨g, 0, rfl, hg, ?_, ?_, ?_, ?_, ?_⟩
  · have := cellsF_get hp 0 (by decide); rw [Nat.zero_add, World.ownsRow.cellAt h _ (by omega)]; simpa [encF] using this
  · have := cellsF_get hp 1 (by decide); rw [Nat.zero_add, World.ownsRow.cellAt h _ (by omega)]; simpa [encF] using this
  · have := cellsF_get hp 2 (by decide); rw [Nat.zero_add, World.ownsRow.cellAt h _ (by omega)]; simpa [encF] using this
  · have := cellsF_get hp 3 (by decide); rw [Nat.zero_add, World.ownsRow.cellAt h _ (by omega)]; simpa [encF] using this
  · have := cellsF_get hp 4 (by decide); rw [Nat.zero_add, World.ownsRow.cellAt h _ (by omega)]; simpa [encF] using this
theorem info62 : (Try.prog.info? 108).map (fun i => (i.zero, i.size, i.bytes)) = some (some (.agg #[.string ⟨#[]⟩, .int .i64 0, .int .i64 0, .float .f64 0, .string ⟨#[]⟩]), 5, 56) := by kernel_rfl
theorem fld_form {w : World} {B : Nat} {v : Value} {n : Nat} {xs : List Value} (h : w.ownsRow B 108 5 v n xs) : ∃ a c, v = .slice a n c := by
  rcases h.2 with ⟨rfl, e⟩ | ⟨g, cap, cur, rfl, _⟩
  · exact ⟨none, 0, by rw [e]⟩
  · exact ⟨_, _, rfl⟩
/-- a block that is known whole -/
def Blk (w : World) (g : Nat) (t : TypeId) (cs : Array Value) : Prop := w.heap[g]? = some (.cells cs t (0, 0))
theorem Blk.lt {w : World} {g : Nat} {t : TypeId} {cs : Array Value} (h : Blk w g t cs) : g < w.heap.size := (Array.getElem?_eq_some_iff.1 h).1
theorem Blk.cell {w : World} {g : Nat} {t : TypeId} {cs : Array Value} (h : Blk w g t cs) (i : Nat) : w.cell? ⟨g, i, none⟩ = cs[i]? := cell_of_row w g i cs t (0, 0) h
theorem Blk.free {w : World} {g : Nat} {t : TypeId} {cs : Array Value} (h : Blk w g t cs) (i : Nat) : w.frozen? ⟨g, i, none⟩ = false := by unfold Blk at h; simp [World.frozen?, h]
theorem Blk.below {w w' : World} {g : Nat} {t : TypeId} {cs : Array Value} (h : Blk w g t cs) (hb : Below w.heap.size w w') : Blk w' g t cs := (hb.block g h.lt).trans h
def evV (a b c : Int) (k : ByteArray) (s : Value) : Value := .agg #[.int .i64 a, .int .i64 b, .int .i64 c, .string k, s]
/-- what Ref answers -/
def Refd (w : World) (a b c : Int) (k : ByteArray) (L : List Fld) (e : Ending) (w' : World) : Prop := ∃ p cp, e = .returned (evV a b c k (.slice p (List.length L) cp)) ∧ Flds w' p L ∧ Below w.heap.size w w'
/-- the round of Ref's loop -/
structure RefI (w wq : World) (Y B : Nat) (a b c : Int) (k : ByteArray) (pv : Value) (L : List Fld) (j : Nat) (u : Value) : Prop where
  e : Blk wq Y 31 #[.int .i64 a, .int .i64 b, .int .i64 c, .string k, pv]
  z : Blk wq (Y + 1) 42 #[.int .i64 0, .int .i64 0, .int .i64 0, .string ⟨#[]⟩, .slice none 0 0]
  x : Blk wq (Y + 1 + 1) 42 #[.int .i64 a, .int .i64 b, .int .i64 c, .string k, u]
  o : wq.ownsRow B 108 5 u j (cellsF (L.take j))
  b : Below Y w wq
theorem RefI.push {w wq W0 w4 : World} {Y B : Nat} {a b c : Int} {k : ByteArray} {pv : Value} {L : List Fld} {j g cap : Nat} {u : Value} (h : RefI w wq Y B a b c k pv L j u) (hB : Y + 1 + 1 < B) (hj : j < L.length) (hW : Below wq.heap.size wq W0)
    (ho : w4.ownsRow B 108 5 (.slice (some ⟨g, 0, none⟩) (j + 1) cap) (j + 1) (cellsF (L.take j) ++ encF L[j])) (hg : W0.grownBy w4 u.ownBlock) :
    RefI w (w4.setCell ⟨Y + 1 + 1, 4, none⟩ (.slice (some ⟨g, 0, none⟩) (j + 1) cap)) Y B a b c k pv L (j + 1) (.slice (some ⟨g, 0, none⟩) (j + 1) cap) ∧ w4.frozen? ⟨Y + 1 + 1, 4, none⟩ = false ∧ w4.cell? ⟨Y + 1 + 1, 4, none⟩ = some u := by
  have hu : ∀ q, u.ownBlock = some q → B ≤ q := fun q hq => (World.ownsRow.lt h.o q hq).1
  have kp : ∀ {q : Nat} {t : TypeId} {cs : Array Value}, q < B → Blk wq q t cs → Blk w4 q t cs := fun hq hb => by
    have h0 := hb.below hW
    exact (hg.block _ h0.lt (fun e => by have := hu _ e.symm; omega)).trans h0
  have hx := kp (by omega) h.x
  have hgB : B ≤ g := (World.ownsRow.lt ho g rfl).1
  have ne : ∀ {q : Nat} {t : TypeId} {cs : Array Value}, q ≠ Y + 1 + 1 → Blk w4 q t cs → Blk (w4.setCell ⟨Y + 1 + 1, 4, none⟩ (.slice (some ⟨g, 0, none⟩) (j + 1) cap)) q t cs := fun hq hb => (Below.heap_setCell _ _ _ _ hq).trans hb
  refine ⟨⟨ne (by omega) (kp (by omega) h.e), ne (by omega) (kp (by omega) h.z), ?_, ?_, ?_⟩, hx.free 4, by rw [hx.cell]; rfl⟩
  · have := heap_setCell_same w4 (Y + 1 + 1) 4 #[.int .i64 a, .int .i64 b, .int .i64 c, .string k, u] 42 (.slice (some ⟨g, 0, none⟩) (j + 1) cap) hx
    exact this
  · have e : L.take (j + 1) = L.take j ++ [L[j]] := by rw [List.take_succ_eq_append_getElem hj]
    rw [e, cellsF_one]
    exact ownsRow_setCell_other ho (by simp [Value.ownBlock]; omega) _
  · have b1 : Below Y w W0 := h.b.trans (hW.mono (Nat.le_of_lt h.e.lt))
    have b2 : Below Y w w4 := b1.trans ⟨hg.os, hg.tape, hg.output, hg.size, fun q hq => hg.block q (Nat.lt_of_lt_of_le (Nat.lt_trans hq h.e.lt) hW.size) (fun e => by have := hu q e.symm; omega)⟩
    exact b2.setCell (p := ⟨Y + 1 + 1, 4, none⟩) (by show Y ≤ Y + 1 + 1; omega) _
theorem RefI.drew {w wq : World} {Y B : Nat} {a b c : Int} {k : ByteArray} {pv : Value} {L : List Fld} {j : Nat} {u : Value} (h : RefI w wq Y B a b c k pv L j u) : RefI w wq.drew Y B a b c k pv L j u :=
  ⟨h.e, h.z, h.x, World.ownsRow.kept h.o (row := none) ⟨rfl, rfl, rfl, Nat.le_refl _, fun _ _ _ => rfl⟩ (by cases u.ownBlock <;> simp), h.b.drew⟩
/-- what lies in the answer's block at the end -/
theorem ref_end {w wr : World} {Y : Nat} {a b c : Int} {k : ByteArray} {pv : Value} {L : List Fld} {ua : Option Addr} {uc j : Nat} (h : RefI w wr Y (Y + 3) a b c k pv L j (.slice ua j uc)) (hj : j = L.length) :
    ∃ W5, W5 = ((((wr.setCell ⟨Y + 1, 0, none⟩ (.int .i64 a)).setCell ⟨Y + 1, 1, none⟩ (.int .i64 b)).setCell ⟨Y + 1, 2, none⟩ (.int .i64 c)).setCell ⟨Y + 1, 3, none⟩ (.string k)).setCell ⟨Y + 1, 4, none⟩ (.slice ua j uc) ∧ Blk W5 (Y + 1) 42 #[.int .i64 a, .int .i64 b, .int .i64 c, .string k, .slice ua j uc] ∧ Below Y w W5 ∧ Flds W5 ua L := by
  have st : ∀ {W : World} {cs : Array Value} (i : Nat) (v : Value), Blk W (Y + 1) 42 cs → Blk (W.setCell ⟨Y + 1, i, none⟩ v) (Y + 1) 42 (cs.setIfInBounds i v) := fun i v hb => heap_setCell_same _ _ i _ 42 v hb
  have so : ∀ {W : World} (i : Nat) (v : Value), W.ownsRow (Y + 3) 108 5 (.slice ua j uc) j (cellsF (L.take j)) → (W.setCell ⟨Y + 1, i, none⟩ v).ownsRow (Y + 3) 108 5 (.slice ua j uc) j (cellsF (L.take j)) := fun i v ho => ownsRow_setCell_other ho (fun e => by have := (World.ownsRow.lt ho (Y + 1) (by first | exact e | exact e.symm)).1; omega) _
  have sb : ∀ {W : World} (i : Nat) (v : Value), Below Y w W → Below Y w (W.setCell ⟨Y + 1, i, none⟩ v) := fun i v hb => hb.setCell (p := ⟨Y + 1, i, none⟩) (by show Y ≤ Y + 1; omega) _
  have ho := so 4 (.slice ua j uc) (so 3 (.string k) (so 2 (.int .i64 c) (so 1 (.int .i64 b) (so 0 (.int .i64 a) h.o))))
  refine ⟨_, rfl, st 4 _ (st 3 _ (st 2 _ (st 1 _ (st 0 _ h.z)))), sb 4 _ (sb 3 _ (sb 2 _ (sb 1 _ (sb 0 _ h.b)))), ?_⟩
  rw [hj, List.take_of_length_le (Nat.le_refl _), ← hj] at ho
  rcases ho.2 with ⟨e, e0⟩ | ⟨g, cap, cur, e, _⟩
  · intro p hp; omega
  · cases e
    exact flds_own hj ho
end Go.Proofs.Ytbghjcfepjbppaa
/-
  A TELLER IN MEMORY: many, NewTeller, Left, open, next, turn, Late, Session, came (where a session is opened).
-/
namespace Go.Proofs.Ytbghjcfepjbppaa
open Go.RowKit
/-- a teller's cells -/
def tel (nodes to id sq : Int) (wv rv : Value) : Array Value := #[.int .i64 nodes, .int .i64 to, .int .i64 id, .int .i64 sq, wv, rv]
theorem Blk.set {w : World} {g : Nat} {t : TypeId} {cs : Array Value} (h : Blk w g t cs) (i : Nat) (u : Value) : Blk (w.setCell ⟨g, i, none⟩ u) g t (cs.setIfInBounds i u) := by
  unfold Blk at h ⊢
  simp [World.setCell, Array.getElem?_modify, h]
theorem Blk.new (w : World) (t : TypeId) (cs : Array Value) : Blk (w.alloc (.cells cs t)) w.heap.size t cs := heap_alloc_new w _
theorem Blk.at_ {w w' : World} {g B : Nat} {t : TypeId} {cs : Array Value} (h : Blk w g t cs) (hb : Below B w w') (hg : g < B) : Blk w' g t cs := (hb.block g hg).trans h
theorem drewB {B : Nat} {a w : World} (h : Below B a w) (n : Nat) : Below B a (w.drewN n) := ⟨h.os, h.tape, h.output, h.size, h.block⟩
def manyB (n : Int) : Bool := decide (1 ≤ n) && decide (n ≤ 7)
theorem many_any (n : Int) (w : World) : Calls Try.prog 38 #[.int .i64 n] w fun e w' => e = .returned (.bool (manyB n)) ∧ w = w' := by
  unfold manyB
  by_cases h1 : 1 ≤ n
  · by_cases h2 : n ≤ 7
    · rw [decide_eq_true h1, decide_eq_true h2]
      go_enter Try.func38, Try.ntmps38
      go_wp2_with fail
      go_ret
      exact ⟨ret_bool (by simp), rfl⟩
    · rw [decide_eq_true h1, decide_eq_false h2]
      have h3 : 7 < n := by omega
      go_enter Try.func38, Try.ntmps38
      go_wp2_with fail
      go_ret
      exact ⟨ret_bool (by simp), rfl⟩
  · rw [decide_eq_false h1]
    have h3 : n < 1 := by omega
    go_enter Try.func38, Try.ntmps38
    go_wp2_with fail
    go_ret
    exact ⟨rfl, rfl⟩
theorem tel_new (n : Int) (h : manyB n = true) (w : World) : Calls Try.prog 7 #[.int .i64 n] w fun e w' => e = .returned (.pointer (some ⟨w.heap.size, 0, none⟩)) ∧ Blk w' w.heap.size 98 (tel n 0 0 0 (.slice none 0 0) (.slice none 0 0)) ∧ Below w.heap.size w w' := by
  have M := many_any n
  rw [h] at M
  have FIN := Lib.hid (show Blk (w.alloc (.cells (tel n 0 0 0 (.slice none 0 0) (.slice none 0 0)) 98)) w.heap.size 98 (tel n 0 0 0 (.slice none 0 0) (.slice none 0 0)) ∧ Below w.heap.size w (w.alloc (.cells (tel n 0 0 0 (.slice none 0 0) (.slice none 0 0)) 98)) from ⟨Blk.new _ _ _, (Below.refl _ w).alloc (Nat.le_refl _) _⟩)
  go_enter Try.func7, Try.ntmps7
  go_wp2_with fail
  refine (M _).mono ?_
  rintro e w1 ⟨rfl, rfl⟩
  go_wp2_with fail
  go_ret
  exact ⟨rfl, FIN.out⟩
theorem tel_newN (n : Int) (h : manyB n = false) (w : World) : Calls Try.prog 7 #[.int .i64 n] w fun e w' => e = .returned (.pointer none) ∧ w = w' := by
  have M := many_any n
  rw [h] at M
  go_enter Try.func7, Try.ntmps7
  go_wp2_with fail
  refine (M _).mono ?_
  rintro e w1 ⟨rfl, rfl⟩
  go_wp2_with fail
  go_ret
  exact ⟨rfl, rfl⟩
section
variable {w : World} {t : Nat} {nodes to id sq : Int} {wv rv : Value}
theorem left_any {a : Option Addr} {n c : Nat} (T : Blk w t 98 (tel nodes to id sq (.slice a n c) rv)) : Calls Try.prog 36 #[.pointer (some ⟨t, 0, none⟩)] w fun e w' => e = .returned (.int .i64 (n : Int)) ∧ w = w' := by
  have c4 : w.cell? ⟨t, 4, none⟩ = some (.slice a n c) := T.cell 4
  clear T
  go_enter Try.func36, Try.ntmps36
  go_wp2_with fail
  go_ret
  exact ⟨rfl, rfl⟩
theorem left_nil (w : World) : Calls Try.prog 36 #[.pointer none] w fun e w' => e = .returned (.int .i64 0) ∧ w = w' := by
  go_enter Try.func36, Try.ntmps36
  go_wp2_with fail
  go_ret
  exact ⟨rfl, rfl⟩
theorem open_any (T : Blk w t 98 (tel nodes to id sq wv rv)) : Calls Try.prog 45 #[.pointer (some ⟨t, 0, none⟩)] w fun e w' => e = .returned (.bool (id != 0)) ∧ w = w' := by
  have c2 : w.cell? ⟨t, 2, none⟩ = some (.int .i64 id) := T.cell 2
  clear T
  go_enter Try.func45, Try.ntmps45
  go_wp2_with fail
  go_ret
  exact ⟨rfl, rfl⟩
theorem sess_any (T : Blk w t 98 (tel nodes to id sq wv rv)) : Calls Try.prog 35 #[.pointer (some ⟨t, 0, none⟩)] w fun e w' => e = .returned (.tuple #[.int .i64 id, .int .i64 sq]) ∧ Below w.heap.size w w' := by
  have c2 : w.cell? ⟨t, 2, none⟩ = some (.int .i64 id) := T.cell 2
  have c3 : w.cell? ⟨t, 3, none⟩ = some (.int .i64 sq) := T.cell 3
  have FIN := Lib.hid (fun n => drewB (Below.refl w.heap.size w) n)
  clear T
  go_enter Try.func35, Try.ntmps35
  go_wp2_with fail
  go_quiet (fail)
  go_wp2_with fail
  go_ret2
  all_goals exact ⟨rfl, FIN.out _⟩
theorem sess_nil (w : World) : Calls Try.prog 35 #[.pointer none] w fun e w' => e = .returned (.tuple #[.int .i64 0, .int .i64 0]) ∧ w = w' := by
  go_enter Try.func35, Try.ntmps35
  go_wp2_with fail
  go_ret2
  exact ⟨rfl, rfl⟩
end
/-- the next node -/
def nextN (to nodes : Int) : Int := if to + 1 < nodes then to + 1 else 0
end Go.Proofs.Ytbghjcfepjbppaa
/-
  VALUES THAT MAY BE: event.value, the document's may and in.
-/
namespace Go.Proofs.Ytbghjcfepjbppaa
open Go.RowKit
theorem in_any (n : Int) (w : World) : Calls Try.prog 68 #[.int .i64 n] w fun e w' => e = .returned (.bool (numB n)) ∧ w = w' := by
  unfold numB
  by_cases h1 : 0 ≤ n
  · by_cases h2 : n ≤ 549755813888
    · rw [decide_eq_true h1, decide_eq_true h2]
      go_enter Try.func68, Try.ntmps68
      go_wp2_with fail
      go_ret
      exact ⟨ret_bool (by simp), rfl⟩
    · rw [decide_eq_true h1, decide_eq_false h2]
      have h3 : 549755813888 < n := by omega
      go_enter Try.func68, Try.ntmps68
      go_wp2_with fail
      go_ret
      exact ⟨ret_bool (by simp), rfl⟩
  · rw [decide_eq_false h1]
    have h3 : n < 0 := by omega
    go_enter Try.func68, Try.ntmps68
    go_wp2_with fail
    go_ret
    exact ⟨rfl, rfl⟩
def mayB (v : Val) : Bool :=
  if v.k = 1 then decide (v.f = 0) && decide (v.s = ⟨#[]⟩)
  else if v.k = 2 then decide (v.n = 0) && decide (v.s = ⟨#[]⟩)
  else if v.k = 3 then decide (v.s.size ≤ 64) && (decide (v.n = 0) && decide (v.f = 0))
  else false
theorem str_zero {s : ByteArray} (h : s ≠ ⟨#[]⟩) : (s.toList == []) = false := by
  simp only [ByteArray.toList_eq, beq_eq_false_iff_ne, ne_eq]
  intro e
  apply h
  cases s
  simp only [ByteArray.mk.injEq]
  exact Array.toList_inj.1 (by simpa using e)
set_option maxHeartbeats 1000000 in
theorem value_any (v : Val) (hs : v.s.size ≤ 9223372036854775807) (w : World) : Calls Try.prog 89 #[v.val] w fun e w' => e = .returned (.bool (mayB v)) ∧ Below w.heap.size w w' := by
  have hb := run_bits v.f
  obtain ⟨k, n, f, s⟩ := v
  unfold Val.val mayB
  simp only at *
  have FIN := Lib.hid (fun ob => (Below.refl _ w).alloc (Nat.le_refl _) ob)
  by_cases h1 : k = 1
  · subst h1
    rw [if_pos rfl]
    by_cases hf : f = 0
    · subst hf
      by_cases hz : s = ⟨#[]⟩
      · subst hz
        go_enter Try.func89, Try.ntmps89
        go_wp2_with fail
        go_ret
        exact ⟨rfl, FIN.out _⟩
      · rw [decide_eq_false hz]
        have hz' := str_zero hz
        clear hz
        go_enter Try.func89, Try.ntmps89
        go_wp2_with fail
        go_ret
        exact ⟨rfl, FIN.out _⟩
    · rw [decide_eq_false hf]
      have hf' : ((f : Int) == 0) = false := by simpa using hf
      clear hf
      go_enter Try.func89, Try.ntmps89
      go_wp2_with fail
      go_ret
      exact ⟨rfl, FIN.out _⟩
  rw [if_neg h1]
  by_cases h2 : k = 2
  · subst h2
    rw [if_pos rfl]
    clear h1 hb
    have hb0 := run_bits 0
    by_cases hn : n = 0
    · subst hn
      by_cases hz : s = ⟨#[]⟩
      · subst hz
        go_enter Try.func89, Try.ntmps89
        go_wp2_with fail
        go_ret
        exact ⟨rfl, FIN.out _⟩
      · rw [decide_eq_false hz]
        have hz' := str_zero hz
        clear hz
        go_enter Try.func89, Try.ntmps89
        go_wp2_with fail
        go_ret
        exact ⟨rfl, FIN.out _⟩
    · rw [decide_eq_false hn]
      have hn' : (n == 0) = false := by simpa using hn
      clear hn
      go_enter Try.func89, Try.ntmps89
      go_wp2_with fail
      go_ret
      exact ⟨rfl, FIN.out _⟩
  rw [if_neg h2]
  by_cases h3 : k = 3
  · subst h3
    rw [if_pos rfl]
    clear h1 h2
    by_cases hl : s.size ≤ 64
    · have hl' : ¬ (64 : Int) < (s.size : Int) := by omega
      rw [decide_eq_true hl]
      by_cases hn : n = 0
      · subst hn
        by_cases hf : f = 0
        · subst hf
          go_enter Try.func89, Try.ntmps89
          go_wp2_with fail
          go_ret
          exact ⟨rfl, FIN.out _⟩
        · rw [decide_eq_false hf]
          have hf' : ((f : Int) == 0) = false := by simpa using hf
          clear hf
          go_enter Try.func89, Try.ntmps89
          go_wp2_with fail
          go_ret
          exact ⟨rfl, FIN.out _⟩
      · rw [decide_eq_false hn]
        have hn' : (n == 0) = false := by simpa using hn
        clear hn
        go_enter Try.func89, Try.ntmps89
        go_wp2_with fail
        go_ret
        exact ⟨rfl, FIN.out _⟩
    · rw [decide_eq_false hl]
      have hl' : (64 : Int) < (s.size : Int) := by omega
      clear hl
      go_enter Try.func89, Try.ntmps89
      go_wp2_with fail
      go_ret
      exact ⟨rfl, FIN.out _⟩
  rw [if_neg h3]
  have d1 : (k == 1) = false := by simpa using h1
  have d2 : (k == 2) = false := by simpa using h2
  have d3 : (k == 3) = false := by simpa using h3
  clear h1 h2 h3
  go_enter Try.func89, Try.ntmps89
  go_wp2_with fail
  go_ret
  exact ⟨rfl, FIN.out _⟩
set_option maxHeartbeats 1000000 in
theorem may_any (v : Val) (hs : v.s.size ≤ 9223372036854775807) (w : World) : Calls Try.prog 69 #[v.val] w fun e w' => e = .returned (.bool (mayB v)) ∧ Below w.heap.size w w' := by
  have hb := run_bits v.f
  obtain ⟨k, n, f, s⟩ := v
  unfold Val.val mayB
  simp only at *
  have FIN := Lib.hid ((Below.refl _ w).alloc (Nat.le_refl _) (.cells #[.int .i64 k, .int .i64 n, .float .f64 f, .string s] 106))
  by_cases h0 : k < 1
  · have R := Lib.hid (show false = (if k = 1 then decide (f = 0) && decide (s = ⟨#[]⟩) else if k = 2 then decide (n = 0) && decide (s = ⟨#[]⟩) else if k = 3 then decide (s.size ≤ 64) && (decide (n = 0) && decide (f = 0)) else false) by
      rw [if_neg (by omega), if_neg (by omega), if_neg (by omega)])
    rw [← R.out]
    go_enter Try.func69, Try.ntmps69
    go_wp2_with fail
    go_ret
    exact ⟨rfl, FIN.out⟩
  by_cases h4 : 3 < k
  · have R := Lib.hid (show false = (if k = 1 then decide (f = 0) && decide (s = ⟨#[]⟩) else if k = 2 then decide (n = 0) && decide (s = ⟨#[]⟩) else if k = 3 then decide (s.size ≤ 64) && (decide (n = 0) && decide (f = 0)) else false) by
      rw [if_neg (by omega), if_neg (by omega), if_neg (by omega)])
    rw [← R.out]
    go_enter Try.func69, Try.ntmps69
    go_wp2_with fail
    go_ret
    exact ⟨rfl, FIN.out⟩
  by_cases hl : s.size ≤ 64
  · have hl' : ¬ (64 : Int) < (s.size : Int) := by omega
    obtain ⟨en, hen⟩ : ∃ b : Bool, decide (n = 0) = b := ⟨_, rfl⟩
    obtain ⟨ef, hef⟩ : ∃ b : Bool, decide (f = 0) = b := ⟨_, rfl⟩
    obtain ⟨es, hes⟩ : ∃ b : Bool, decide (s = ⟨#[]⟩) = b := ⟨_, rfl⟩
    have xn : (n == 0) = en := by rw [← hen]; apply Bool.eq_iff_iff.2; simp
    have xf : ((f : Int) == 0) = ef := by rw [← hef]; apply Bool.eq_iff_iff.2; simp
    have xs : (s.toList == []) = es := by
      rw [← hes]
      by_cases hz : s = ⟨#[]⟩
      · subst hz; simp [ByteArray.toList_eq]
      · rw [decide_eq_false hz]; exact str_zero hz
    rw [hen, hef, hes, decide_eq_true hl]
    clear hen hef hes hl
    rcases (show k = 1 ∨ k = 2 ∨ k = 3 by omega) with rfl | rfl | rfl
    · rw [if_pos rfl]
      clear h0 h4
      cases en <;> cases ef <;> cases es <;> (go_enter Try.func69, Try.ntmps69; go_wp2_with fail; go_ret; exact ⟨rfl, FIN.out⟩)
    · rw [if_neg (by decide), if_pos rfl]
      clear h0 h4
      cases en <;> cases ef <;> cases es <;> (go_enter Try.func69, Try.ntmps69; go_wp2_with fail; go_ret; exact ⟨rfl, FIN.out⟩)
    · rw [if_neg (by decide), if_neg (by decide), if_pos rfl]
      clear h0 h4
      cases en <;> cases ef <;> cases es <;> (go_enter Try.func69, Try.ntmps69; go_wp2_with fail; go_ret; exact ⟨rfl, FIN.out⟩)
  · have hl' : (64 : Int) < (s.size : Int) := by omega
    have hne : s ≠ ⟨#[]⟩ := fun e => by rw [e] at hl; exact hl (by decide)
    have R := Lib.hid (show false = (if k = 1 then decide (f = 0) && decide (s = ⟨#[]⟩) else if k = 2 then decide (n = 0) && decide (s = ⟨#[]⟩) else if k = 3 then decide (s.size ≤ 64) && (decide (n = 0) && decide (f = 0)) else false) by
      rw [decide_eq_false hne, decide_eq_false hl]; simp)
    rw [← R.out]
    clear hl hne
    go_enter Try.func69, Try.ntmps69
    go_wp2_with fail
    go_ret
    exact ⟨rfl, FIN.out⟩
end Go.Proofs.Ytbghjcfepjbppaa
/-
  FIELDS THAT MAY BE: event.fields.
-/
namespace Go.Proofs.Ytbghjcfepjbppaa
open Go.RowKit
def prevN (L : List Fld) (i : Nat) : ByteArray := ((L[i - 1]?).map (·.nm)).getD ⟨#[]⟩
def okAt (L : List Fld) (i : Nat) : Bool :=
  match L[i]? with
  | none => true
  | some x => (decide (i = 0) || ltS (prevN L i) x.nm) && (wordB x.nm && mayB x.v)
def okTo (L : List Fld) (j : Nat) : Bool := (List.range j).all (okAt L)
def fieldsB (L : List Fld) : Bool := decide (L.length ≤ 8) && okTo L L.length
theorem okTo_succ (L : List Fld) (j : Nat) : okTo L (j + 1) = (okTo L j && okAt L j) := by simp [okTo, List.range_succ]
theorem okTo_false {L : List Fld} {j n : Nat} (hj : j < n) (h : okAt L j = false) : okTo L n = false := by
  unfold okTo
  rw [List.all_eq_false]
  exact ⟨j, List.mem_range.2 hj, by rw [h]; decide⟩
theorem okAt_zero {L : List Fld} (h : 0 < L.length) : okAt L 0 = (wordB L[0].nm && mayB L[0].v) := by
  unfold okAt
  rw [List.getElem?_eq_getElem h]
  simp
theorem okAt_succ {L : List Fld} {i : Nat} (h : i + 1 < L.length) : okAt L (i + 1) = (ltS (L[i]'(by omega)).nm L[i + 1].nm && (wordB L[i + 1].nm && mayB L[i + 1].v)) := by
  unfold okAt prevN
  rw [List.getElem?_eq_getElem h, Nat.add_sub_cancel, List.getElem?_eq_getElem (show i < L.length by omega)]
  simp
set_option maxHeartbeats 1000000 in
set_option maxRecDepth 100000 in
theorem fields_any (p : Option Addr) (cp : Nat) (L : List Fld) (w : World) (hl : L.length ≤ 100) (hx : Flds w p L) (hS : ∀ x ∈ L, x.nm.size ≤ 9223372036854775807 ∧ x.v.s.size ≤ 9223372036854775807) :
    Calls Try.prog 71 #[.slice p L.length cp] w fun e w' => e = .returned (.bool (fieldsB L)) ∧ Below w.heap.size w w' := by
  unfold fieldsB
  by_cases h8 : L.length ≤ 8
  · have h8' : ¬ (8 : Int) < (L.length : Int) := by omega
    rw [decide_eq_true h8]
    have X2h := Lib.hid hx
    have HS := Lib.hid hS
    generalize hA : okTo L L.length = A
    have HA := Lib.hid hA
    generalize hn : L.length = n at *
    have HN := Lib.hid hn
    have BR := Lib.hid (Below.refl w.heap.size w)
    clear hn hx hS hA
    generalize hy : w.heap.size = Y at *
    rw [Bool.true_and]
    go_enter Try.func71, Try.ntmps71
    go_wp2_with fail
    go_loopw [11] (fun i wq => ∃ j : Nat, i = .int .i64 j ∧ j ≤ n ∧ Hid (okTo L j = true) ∧ Below Y w wq) (fun i _ => n - (intOf i).toNat)
    case atStart => exact ⟨0, rfl, Nat.zero_le _, Lib.hid rfl, BR.out⟩
    case round =>
      obtain ⟨j, rfl, hj, hf, hB⟩ := hrel
      have HB := Lib.hid hB
      clear hB
      by_cases hjn : j < n
      · have hjL : j < L.length := by rw [HN.out]; exact hjn
        obtain ⟨g0, o, rfl, hg0, c0, c1, c2, c3, c4⟩ := X2h.out j hjL
        have hgY : g0 < Y := by rw [← hy]; exact hg0
        rw [← HB.out.cell (p := ⟨g0, _, none⟩) hgY] at c0 c1 c2 c3 c4
        have SZ := Lib.hid (HS.out L[j] (List.getElem_mem hjL))
        have OT := Lib.hid (okTo_succ L j)
        have OF := Lib.hid (fun h => HA.out.symm.trans (okTo_false (L := L) hjn h))
        rcases j with _ | i
        · have E0 := Lib.hid (okAt_zero hjL)
          generalize L[0] = x at *
          obtain ⟨xn, xk, xm, xf, xs⟩ := x
          simp only at c0 c1 c2 c3 c4 E0 SZ
          have WA := word_any xn SZ.out.1
          have VA := value_any ⟨xk, xm, xf, xs⟩ SZ.out.2
          unfold Val.val at VA
          simp only at VA
          obtain ⟨w3, hw3, N3, B3⟩ : ∃ w3, w3 = wr.alloc (.cells #[.string xn, .int .i64 xk, .int .i64 xm, .float .f64 xf, .string xs] 105) ∧ Blk w3 wr.heap.size 105 #[.string xn, .int .i64 xk, .int .i64 xm, .float .f64 xf, .string xs] ∧ Below wr.heap.size wr w3 :=
            ⟨_, rfl, heap_alloc_new wr _, (Below.refl _ wr).alloc (Nat.le_refl _) _⟩
          have W3 := Lib.hid hw3
          have B3h : Hid (Below Y w w3) := Lib.hid (HB.out.trans (B3.mono (by have := HB.out.size; omega)))
          have N3h := Lib.hid N3
          clear hw3 N3 B3
          simp only [Nat.zero_mul, Nat.add_zero] at c0 c1 c2 c3 c4
          rw [show ((0 : Nat) : Int) = 0 from rfl]
          cases hw : wordB xn
          · have R := Lib.hid (show false = A from (OF.out (E0.out.trans (by rw [hw]; rfl))).symm)
            rw [hw] at WA
            clear hw
            have WAh := Lib.hid WA
            clear VA WA
            go_wp2_with fail
            rw [← W3.out]
            go_quiet (fail)
            have N5 : Blk (w3.drewN nq) wr.heap.size 105 #[.string xn, .int .i64 xk, .int .i64 xm, .float .f64 xf, .string xs] := N3h.out
            have B5h : Hid (Below Y w (w3.drewN nq)) := Lib.hid (below_drewN B3h.out nq)
            generalize w3.drewN nq = w5 at *
            have m0 : w5.cell? ⟨wr.heap.size, 0, none⟩ = some (.string xn) := N5.cell 0
            have m1 : w5.cell? ⟨wr.heap.size, 1, none⟩ = some (.int .i64 xk) := N5.cell 1
            have m2 : w5.cell? ⟨wr.heap.size, 2, none⟩ = some (.int .i64 xm) := N5.cell 2
            have m3 : w5.cell? ⟨wr.heap.size, 3, none⟩ = some (.float .f64 xf) := N5.cell 3
            have m4 : w5.cell? ⟨wr.heap.size, 4, none⟩ = some (.string xs) := N5.cell 4
            clear N5
            go_wp2_with fail
            refine (WAh.out _).mono ?_
            rintro e w6 ⟨rfl, rfl⟩
            go_wp2_with fail
            go_ret
            exact ⟨ret_bool R.out, hy ▸ B5h.out⟩
          · cases hv : mayB ⟨xk, xm, xf, xs⟩
            · have R := Lib.hid (show false = A from (OF.out (E0.out.trans (by rw [hw, hv]; rfl))).symm)
              rw [hw] at WA
              rw [hv] at VA
              clear hw hv
              have WAh := Lib.hid WA
              have VAh := Lib.hid VA
              clear VA WA
              go_wp2_with fail
              rw [← W3.out]
              go_quiet (fail)
              have N5 : Blk (w3.drewN nq) wr.heap.size 105 #[.string xn, .int .i64 xk, .int .i64 xm, .float .f64 xf, .string xs] := N3h.out
              have B5h : Hid (Below Y w (w3.drewN nq)) := Lib.hid (below_drewN B3h.out nq)
              generalize w3.drewN nq = w5 at *
              have m0 : w5.cell? ⟨wr.heap.size, 0, none⟩ = some (.string xn) := N5.cell 0
              have m1 : w5.cell? ⟨wr.heap.size, 1, none⟩ = some (.int .i64 xk) := N5.cell 1
              have m2 : w5.cell? ⟨wr.heap.size, 2, none⟩ = some (.int .i64 xm) := N5.cell 2
              have m3 : w5.cell? ⟨wr.heap.size, 3, none⟩ = some (.float .f64 xf) := N5.cell 3
              have m4 : w5.cell? ⟨wr.heap.size, 4, none⟩ = some (.string xs) := N5.cell 4
              clear N5
              go_wp2_with fail
              refine (WAh.out _).mono ?_
              rintro e w6 ⟨rfl, rfl⟩
              go_wp2_with fail
              refine (VAh.out _).mono ?_
              rintro e w7 ⟨rfl, b7⟩
              have B7h : Hid (Below Y w w7) := Lib.hid (B5h.out.trans (b7.mono (by have := B5h.out.size; omega)))
              clear b7
              go_wp2_with fail
              go_ret
              exact ⟨ret_bool R.out, hy ▸ B7h.out⟩
            · have N1 : Hid (okTo L (0 + 1) = true) := Lib.hid (by rw [OT.out, hf.out, E0.out, hw, hv]; rfl)
              rw [hw] at WA
              rw [hv] at VA
              clear hw hv
              have WAh := Lib.hid WA
              have VAh := Lib.hid VA
              clear VA WA
              go_wp2_with fail
              rw [← W3.out]
              go_quiet (fail)
              have N5 : Blk (w3.drewN nq) wr.heap.size 105 #[.string xn, .int .i64 xk, .int .i64 xm, .float .f64 xf, .string xs] := N3h.out
              have B5h : Hid (Below Y w (w3.drewN nq)) := Lib.hid (below_drewN B3h.out nq)
              generalize w3.drewN nq = w5 at *
              have m0 : w5.cell? ⟨wr.heap.size, 0, none⟩ = some (.string xn) := N5.cell 0
              have m1 : w5.cell? ⟨wr.heap.size, 1, none⟩ = some (.int .i64 xk) := N5.cell 1
              have m2 : w5.cell? ⟨wr.heap.size, 2, none⟩ = some (.int .i64 xm) := N5.cell 2
              have m3 : w5.cell? ⟨wr.heap.size, 3, none⟩ = some (.float .f64 xf) := N5.cell 3
              have m4 : w5.cell? ⟨wr.heap.size, 4, none⟩ = some (.string xs) := N5.cell 4
              clear N5
              go_wp2_with fail
              refine (WAh.out _).mono ?_
              rintro e w6 ⟨rfl, rfl⟩
              go_wp2_with fail
              refine (VAh.out _).mono ?_
              rintro e w7 ⟨rfl, b7⟩
              have B7h : Hid (Below Y w w7) := Lib.hid (B5h.out.trans (b7.mono (by have := B5h.out.size; omega)))
              clear b7
              go_wp2_with fail
              go_roundw
              case rel => exact ⟨0 + 1, by go_num, by omega, N1, B7h.out⟩
              case measure => simp [intOf]; omega
        · have hiL : i < L.length := by omega
          have hin : i < n := by omega
          obtain ⟨g0', o', he, _, d0, _, _, _, _⟩ := X2h.out i hiL
          obtain ⟨rfl, rfl⟩ : g0' = g0 ∧ o' = o := by simp only [Option.some.injEq, Addr.mk.injEq, and_true] at he; exact ⟨he.1.symm, he.2.symm⟩
          clear he
          rw [← HB.out.cell (p := ⟨g0', _, none⟩) hgY] at d0
          have E0 := Lib.hid (okAt_succ hjL)
          generalize L[i + 1] = x at *
          generalize L[i] = y at *
          obtain ⟨xn, xk, xm, xf, xs⟩ := x
          obtain ⟨yn, yk, ym, yf, ys⟩ := y
          simp only at c0 c1 c2 c3 c4 E0 SZ d0
          have WA := word_any xn SZ.out.1
          have VA := value_any ⟨xk, xm, xf, xs⟩ SZ.out.2
          unfold Val.val at VA
          simp only at VA
          obtain ⟨w3, hw3, N3, B3, d3⟩ : ∃ w3, w3 = wr.alloc (.cells #[.string xn, .int .i64 xk, .int .i64 xm, .float .f64 xf, .string xs] 105) ∧ Blk w3 wr.heap.size 105 #[.string xn, .int .i64 xk, .int .i64 xm, .float .f64 xf, .string xs] ∧ Below wr.heap.size wr w3 ∧ w3.cell? ⟨g0', o' + i * 5, none⟩ = some (.string yn) :=
            ⟨_, rfl, heap_alloc_new wr _, (Below.refl _ wr).alloc (Nat.le_refl _) _, by rw [World.cell?_alloc_lt _ _ _ (World.block_lt_of_cell? _ _ d0)]; exact d0⟩
          have W3 := Lib.hid hw3
          have B3h : Hid (Below Y w w3) := Lib.hid (HB.out.trans (B3.mono (by have := HB.out.size; omega)))
          have N3h := Lib.hid N3
          have n3 : w3.cell? ⟨wr.heap.size, 0, none⟩ = some (.string xn) := N3.cell 0
          have z1 : (((i + 1 : Nat) : Int) == 0) = false := by simp; omega
          have z2 : (((i : Int) + 1) == 0) = false := by simp; omega
          have hwp : IntKind.i64.wrap ((i : Int) + 1 - 1) = (i : Int) := by rw [Int.add_sub_cancel]; exact IntWalk.i64_in _ (by omega)
          have hwq : IntKind.i64.wrap (((i + 1 : Nat) : Int) - 1) = (i : Int) := by rw [show (((i + 1 : Nat) : Int) - 1) = (i : Int) by omega]; exact IntWalk.i64_in _ (by omega)
          clear hw3 N3 B3 d0
          cases hlt : ltS yn xn
          · have R := Lib.hid (show false = A from (OF.out (E0.out.trans (by rw [hlt]; rfl))).symm)
            unfold ltS at hlt
            clear VA WA
            go_wp2_with fail
            rw [← W3.out]
            go_quiet (fail)
            have B5h : Hid (Below Y w (w3.drewN nq)) := Lib.hid (below_drewN B3h.out nq)
            generalize w3.drewN nq = w5 at *
            go_wp2_with fail
            go_ret
            exact ⟨ret_bool R.out, hy ▸ B5h.out⟩
          · have hlt' := hlt
            unfold ltS at hlt'
            cases hw : wordB xn
            · have R := Lib.hid (show false = A from (OF.out (E0.out.trans (by rw [hw]; cases ltS yn xn <;> rfl))).symm)
              rw [hw] at WA
              clear hw
              have WAh := Lib.hid WA
              clear VA WA
              go_wp2_with fail
              rw [← W3.out]
              go_quiet (fail)
              have N5 : Blk (w3.drewN nq) wr.heap.size 105 #[.string xn, .int .i64 xk, .int .i64 xm, .float .f64 xf, .string xs] := N3h.out
              have B5h : Hid (Below Y w (w3.drewN nq)) := Lib.hid (below_drewN B3h.out nq)
              generalize w3.drewN nq = w5 at *
              have m0 : w5.cell? ⟨wr.heap.size, 0, none⟩ = some (.string xn) := N5.cell 0
              have m1 : w5.cell? ⟨wr.heap.size, 1, none⟩ = some (.int .i64 xk) := N5.cell 1
              have m2 : w5.cell? ⟨wr.heap.size, 2, none⟩ = some (.int .i64 xm) := N5.cell 2
              have m3 : w5.cell? ⟨wr.heap.size, 3, none⟩ = some (.float .f64 xf) := N5.cell 3
              have m4 : w5.cell? ⟨wr.heap.size, 4, none⟩ = some (.string xs) := N5.cell 4
              clear N5
              go_wp2_with fail
              refine (WAh.out _).mono ?_
              rintro e w6 ⟨rfl, rfl⟩
              go_wp2_with fail
              go_ret
              exact ⟨ret_bool R.out, hy ▸ B5h.out⟩
            · cases hv : mayB ⟨xk, xm, xf, xs⟩
              · have R := Lib.hid (show false = A from (OF.out (E0.out.trans (by rw [hw, hv]; cases ltS yn xn <;> rfl))).symm)
                rw [hw] at WA
                rw [hv] at VA
                clear hw hv
                have WAh := Lib.hid WA
                have VAh := Lib.hid VA
                clear VA WA
                go_wp2_with fail
                rw [← W3.out]
                go_quiet (fail)
                have N5 : Blk (w3.drewN nq) wr.heap.size 105 #[.string xn, .int .i64 xk, .int .i64 xm, .float .f64 xf, .string xs] := N3h.out
                have B5h : Hid (Below Y w (w3.drewN nq)) := Lib.hid (below_drewN B3h.out nq)
                generalize w3.drewN nq = w5 at *
                have m0 : w5.cell? ⟨wr.heap.size, 0, none⟩ = some (.string xn) := N5.cell 0
                have m1 : w5.cell? ⟨wr.heap.size, 1, none⟩ = some (.int .i64 xk) := N5.cell 1
                have m2 : w5.cell? ⟨wr.heap.size, 2, none⟩ = some (.int .i64 xm) := N5.cell 2
                have m3 : w5.cell? ⟨wr.heap.size, 3, none⟩ = some (.float .f64 xf) := N5.cell 3
                have m4 : w5.cell? ⟨wr.heap.size, 4, none⟩ = some (.string xs) := N5.cell 4
                clear N5
                go_wp2_with fail
                refine (WAh.out _).mono ?_
                rintro e w6 ⟨rfl, rfl⟩
                go_wp2_with fail
                refine (VAh.out _).mono ?_
                rintro e w7 ⟨rfl, b7⟩
                have B7h : Hid (Below Y w w7) := Lib.hid (B5h.out.trans (b7.mono (by have := B5h.out.size; omega)))
                clear b7
                go_wp2_with fail
                go_ret
                exact ⟨ret_bool R.out, hy ▸ B7h.out⟩
              · have N1 : Hid (okTo L ((i + 1) + 1) = true) := Lib.hid (by rw [OT.out, hf.out, E0.out, hlt, hw, hv]; rfl)
                rw [hw] at WA
                rw [hv] at VA
                clear hw hv
                have WAh := Lib.hid WA
                have VAh := Lib.hid VA
                clear VA WA
                go_wp2_with fail
                rw [← W3.out]
                go_quiet (fail)
                have N5 : Blk (w3.drewN nq) wr.heap.size 105 #[.string xn, .int .i64 xk, .int .i64 xm, .float .f64 xf, .string xs] := N3h.out
                have B5h : Hid (Below Y w (w3.drewN nq)) := Lib.hid (below_drewN B3h.out nq)
                generalize w3.drewN nq = w5 at *
                have m0 : w5.cell? ⟨wr.heap.size, 0, none⟩ = some (.string xn) := N5.cell 0
                have m1 : w5.cell? ⟨wr.heap.size, 1, none⟩ = some (.int .i64 xk) := N5.cell 1
                have m2 : w5.cell? ⟨wr.heap.size, 2, none⟩ = some (.int .i64 xm) := N5.cell 2
                have m3 : w5.cell? ⟨wr.heap.size, 3, none⟩ = some (.float .f64 xf) := N5.cell 3
                have m4 : w5.cell? ⟨wr.heap.size, 4, none⟩ = some (.string xs) := N5.cell 4
                clear N5
                go_wp2_with fail
                refine (WAh.out _).mono ?_
                rintro e w6 ⟨rfl, rfl⟩
                go_wp2_with fail
                refine (VAh.out _).mono ?_
                rintro e w7 ⟨rfl, b7⟩
                have B7h : Hid (Below Y w w7) := Lib.hid (B5h.out.trans (b7.mono (by have := B5h.out.size; omega)))
                clear b7
                go_wp2_with fail
                go_roundw
                case rel => exact ⟨(i + 1) + 1, by go_num, by omega, N1, B7h.out⟩
                case measure => simp [intOf]; omega
      · obtain rfl : j = n := by omega
        have R := Lib.hid (show true = A by rw [← HA.out]; exact hf.out.symm)
        go_wp2_with fail
        go_ret
        exact ⟨ret_bool R.out, hy ▸ HB.out⟩
  · have h8' : (8 : Int) < (L.length : Int) := by omega
    rw [decide_eq_false h8]
    have FIN := Lib.hid (Below.refl w.heap.size w)
    generalize okTo L L.length = A
    generalize L.length = n at *
    go_enter Try.func71, Try.ntmps71
    go_wp2_with fail
    go_ret
    exact ⟨rfl, FIN.out⟩
end Go.Proofs.Ytbghjcfepjbppaa
/-
  EVENTS THAT MAY BE: event.Check.
-/
namespace Go.Proofs.Ytbghjcfepjbppaa
open Go.RowKit
def chkB (a b c : Int) (k : ByteArray) (L : List Fld) : Bool := numB a && (numB b && (numB c && (wordB k && fieldsB L)))
def errI (b : Bool) : Int := if b then 0 else 1
theorem ret_int {x y : Int} (h : x = y) : Ending.returned (.int .i64 x) = .returned (.int .i64 y) := by rw [h]
set_option maxHeartbeats 1000000 in
set_option maxRecDepth 100000 in
theorem check_any (a b c : Int) (k : ByteArray) (p : Option Addr) (cp : Nat) (L : List Fld) (w : World) (hl : L.length ≤ 100) (hk : k.size ≤ 9223372036854775807) (hx : Flds w p L) (hS : ∀ x ∈ L, x.nm.size ≤ 9223372036854775807 ∧ x.v.s.size ≤ 9223372036854775807) :
    Calls Try.prog 41 #[evV a b c k (.slice p L.length cp)] w fun e w' => e = .returned (.int .i64 (errI (chkB a b c k L))) ∧ Below w.heap.size w w' := by
  obtain ⟨w1, hw1, K1, B1, hs1⟩ : ∃ w1, w1 = w.alloc (.cells #[.int .i64 a, .int .i64 b, .int .i64 c, .string k, .slice p L.length cp] 31) ∧ Blk w1 w.heap.size 31 #[.int .i64 a, .int .i64 b, .int .i64 c, .string k, .slice p L.length cp] ∧ Below w.heap.size w w1 ∧ w1.heap.size = w.heap.size + 1 :=
    ⟨_, rfl, heap_alloc_new w _, (Below.refl w.heap.size w).alloc (Nat.le_refl _) _, by simp⟩
  have W1 := Lib.hid hw1
  have B1h := Lib.hid B1
  have NA := number_any a
  have NB := number_any b
  have NC := number_any c
  have WK := word_any k hk
  have FA := fields_any p cp L w1 hl (hx.below B1) hS
  have e0 : w1.cell? ⟨w.heap.size, 0, none⟩ = some (.int .i64 a) := K1.cell 0
  have e1 : w1.cell? ⟨w.heap.size, 1, none⟩ = some (.int .i64 b) := K1.cell 1
  have e2 : w1.cell? ⟨w.heap.size, 2, none⟩ = some (.int .i64 c) := K1.cell 2
  have e3 : w1.cell? ⟨w.heap.size, 3, none⟩ = some (.string k) := K1.cell 3
  have e4 : w1.cell? ⟨w.heap.size, 4, none⟩ = some (.slice p L.length cp) := K1.cell 4
  clear hx hS K1 B1 hw1
  unfold chkB errI
  generalize fieldsB L = bF at *
  generalize L.length = n at *
  generalize numB a = bA at *
  generalize numB b = bB at *
  generalize numB c = bC at *
  generalize wordB k = bK at *
  have NAh := Lib.hid NA
  have NBh := Lib.hid NB
  have NCh := Lib.hid NC
  have WKh := Lib.hid WK
  have FAh := Lib.hid FA
  clear NA NB NC WK FA
  generalize hy : w.heap.size = Y at *
  unfold evV
  cases bA
  · go_enter Try.func41, Try.ntmps41
    go_wp2_with fail
    rw [← W1.out]
    go_wp2_with fail
    refine (NAh.out _).mono ?_
    rintro e w2 ⟨rfl, rfl⟩
    go_wp2_with fail
    go_ret
    exact ⟨rfl, B1h.out⟩
  · skip
    cases bB
    · go_enter Try.func41, Try.ntmps41
      go_wp2_with fail
      rw [← W1.out]
      go_wp2_with fail
      refine (NAh.out _).mono ?_
      rintro e w2 ⟨rfl, rfl⟩
      go_wp2_with fail
      refine (NBh.out _).mono ?_
      rintro e w3 ⟨rfl, rfl⟩
      go_wp2_with fail
      go_ret
      exact ⟨rfl, B1h.out⟩
    · skip
      cases bC
      · go_enter Try.func41, Try.ntmps41
        go_wp2_with fail
        rw [← W1.out]
        go_wp2_with fail
        refine (NAh.out _).mono ?_
        rintro e w2 ⟨rfl, rfl⟩
        go_wp2_with fail
        refine (NBh.out _).mono ?_
        rintro e w3 ⟨rfl, rfl⟩
        go_wp2_with fail
        refine (NCh.out _).mono ?_
        rintro e w4 ⟨rfl, rfl⟩
        go_wp2_with fail
        go_ret
        exact ⟨rfl, B1h.out⟩
      · skip
        cases bK
        · go_enter Try.func41, Try.ntmps41
          go_wp2_with fail
          rw [← W1.out]
          go_wp2_with fail
          refine (NAh.out _).mono ?_
          rintro e w2 ⟨rfl, rfl⟩
          go_wp2_with fail
          refine (NBh.out _).mono ?_
          rintro e w3 ⟨rfl, rfl⟩
          go_wp2_with fail
          refine (NCh.out _).mono ?_
          rintro e w4 ⟨rfl, rfl⟩
          go_wp2_with fail
          refine (WKh.out _).mono ?_
          rintro e w5 ⟨rfl, rfl⟩
          go_wp2_with fail
          go_ret
          exact ⟨rfl, B1h.out⟩
        · skip
          cases bF
          · go_enter Try.func41, Try.ntmps41
            go_wp2_with fail
            rw [← W1.out]
            go_wp2_with fail
            refine (NAh.out _).mono ?_
            rintro e w2 ⟨rfl, rfl⟩
            go_wp2_with fail
            refine (NBh.out _).mono ?_
            rintro e w3 ⟨rfl, rfl⟩
            go_wp2_with fail
            refine (NCh.out _).mono ?_
            rintro e w4 ⟨rfl, rfl⟩
            go_wp2_with fail
            refine (WKh.out _).mono ?_
            rintro e w5 ⟨rfl, rfl⟩
            go_wp2_with fail
            refine (FAh.out).mono ?_
            rintro e w5 ⟨rfl, b5⟩
            have B5h : Hid (Below Y w w5) := Lib.hid (B1h.out.trans (b5.mono (by omega)))
            clear b5
            go_wp2_with fail
            go_ret
            exact ⟨rfl, B5h.out⟩
          · go_enter Try.func41, Try.ntmps41
            go_wp2_with fail
            rw [← W1.out]
            go_wp2_with fail
            refine (NAh.out _).mono ?_
            rintro e w2 ⟨rfl, rfl⟩
            go_wp2_with fail
            refine (NBh.out _).mono ?_
            rintro e w3 ⟨rfl, rfl⟩
            go_wp2_with fail
            refine (NCh.out _).mono ?_
            rintro e w4 ⟨rfl, rfl⟩
            go_wp2_with fail
            refine (WKh.out _).mono ?_
            rintro e w5 ⟨rfl, rfl⟩
            go_wp2_with fail
            refine (FAh.out).mono ?_
            rintro e w5 ⟨rfl, b5⟩
            have B5h : Hid (Below Y w w5) := Lib.hid (B1h.out.trans (b5.mono (by omega)))
            clear b5
            go_wp2_with fail
            go_ret
            exact ⟨rfl, B5h.out⟩
end Go.Proofs.Ytbghjcfepjbppaa
/-
  AN EVENT WITH NUMBERS; a copy of one without fields; the first event of a teller.
-/
namespace Go.Proofs.Ytbghjcfepjbppaa
open Go.RowKit
set_option maxHeartbeats 1000000 in
set_option maxRecDepth 100000 in
theorem numbered_any (a b c id sq : Int) (k : ByteArray) (p : Option Addr) (n cp : Nat) (w : World) (hi : -9223372036854775808 ≤ sq + 1 ∧ sq + 1 ≤ 9223372036854775807) : Calls Try.prog 42 #[evV a b c k (.slice p n cp), .agg #[.int .i64 id, .int .i64 sq]] w fun e w' => e = .returned (evV id (sq + 1) c k (.slice p n cp)) ∧ Below w.heap.size w w' := by
  have hw : wrap64 (sq + 1) = sq + 1 := by unfold wrap64; omega
  unfold evV
  go_enter Try.func42, Try.ntmps42
  go_wp2_with fail
  go_region
  go_wp2_with fail
  refine bodyPost_ret (by simp [results, Try.results42, go_sem]; try rfl) rfl ?_
  refine ⟨rfl, ?_⟩
  exact (((((Below.refl w.heap.size w).alloc (Nat.le_refl _) _).alloc (by simp) _).alloc (by simp; omega) _).drew)
set_option maxRecDepth 100000 in
theorem clone_nil (w : World) : Calls Try.prog 72 #[.slice none 0 0] w fun e w' => e = .returned (.slice none 0 0) ∧ w = w' := by
  have q29 : ∀ (w : World) (a : Option Addr) (n c n' c' : Nat), (binOp .eql 29 (.slice a n c) (.slice none n' c')).run Try.prog w = .ok (.bool a.isNone) w := fun w a n c n' c' => Lib.run_eql_slice_nil w _ _ a n c n' c' Try.underlying29
  go_enter Try.func72, Try.ntmps72
  go_wp2_with fail
  go_ret
  exact ⟨rfl, rfl⟩
set_option maxHeartbeats 1000000 in
set_option maxRecDepth 100000 in
theorem copied_nil (a b c : Int) (k : ByteArray) (hk : k.size ≤ 281474976710656) (w : World) : Calls Try.prog 43 #[evV a b c k (.slice none 0 0)] w fun e w' => e = .returned (evV a b c k (.slice none 0 0)) ∧ Below w.heap.size w w' := by
  obtain ⟨w1, hw1, K1, Z1, B1, hs1⟩ : ∃ w1, w1 = (w.alloc (.cells #[.int .i64 a, .int .i64 b, .int .i64 c, .string k, .slice none 0 0] 31)).alloc (.cells #[.int .i64 0, .int .i64 0, .int .i64 0, .string ⟨#[]⟩, .slice none 0 0] 31) ∧ Blk w1 w.heap.size 31 #[.int .i64 a, .int .i64 b, .int .i64 c, .string k, .slice none 0 0] ∧ Blk w1 (w.heap.size + 1) 31 #[.int .i64 0, .int .i64 0, .int .i64 0, .string ⟨#[]⟩, .slice none 0 0] ∧ Below w.heap.size w w1 ∧ w1.heap.size = w.heap.size + 1 + 1 :=
    ⟨_, rfl, (Blk.new w 31 _).below ((Below.refl _ _).alloc (Nat.le_refl _) _), by have := Blk.new (w.alloc (.cells #[.int .i64 a, .int .i64 b, .int .i64 c, .string k, .slice none 0 0] 31)) 31 #[.int .i64 0, .int .i64 0, .int .i64 0, .string ⟨#[]⟩, .slice none 0 0]; simpa using this, ((Below.refl w.heap.size w).alloc (Nat.le_refl _) _).alloc (by simp) _, by simp⟩
  have SC := Lib.hid (str_clone k w1 hk)
  have W1 := Lib.hid hw1
  unfold evV
  generalize hy : w.heap.size = Y at *
  have e3 : w1.cell? ⟨Y, 3, none⟩ = some (.string k) := K1.cell 3
  have K1h := Lib.hid K1
  have Z1h := Lib.hid Z1
  have B1h := Lib.hid B1
  clear K1 Z1 B1 hw1 hk
  go_enter Try.func43, Try.ntmps43
  go_wp2_with fail
  rw [← W1.out]
  go_wp2_with fail
  refine SC.out.mono ?_
  rintro e w2 ⟨rfl, b2⟩
  have K2 := (K1h.out.below b2).set 3 (.string k)
  have Z2 := (Z1h.out.below b2)
  have c3 : w2.cell? ⟨Y, 3, none⟩ = some (.string k) := (K1h.out.below b2).cell 3
  have c4 : w2.cell? ⟨Y, 4, none⟩ = some (.slice none 0 0) := (K1h.out.below b2).cell 4
  have c0 : w2.cell? ⟨Y, 0, none⟩ = some (.int .i64 a) := (K1h.out.below b2).cell 0
  have c1 : w2.cell? ⟨Y, 1, none⟩ = some (.int .i64 b) := (K1h.out.below b2).cell 1
  have c2 : w2.cell? ⟨Y, 2, none⟩ = some (.int .i64 c) := (K1h.out.below b2).cell 2
  have fz : ∀ i, w2.frozen? ⟨Y, i, none⟩ = false := (K1h.out.below b2).free
  have z0 : w2.cell? ⟨Y + 1, 0, none⟩ = some (.int .i64 0) := Z2.cell 0
  have z1 : w2.cell? ⟨Y + 1, 1, none⟩ = some (.int .i64 0) := Z2.cell 1
  have z2 : w2.cell? ⟨Y + 1, 2, none⟩ = some (.int .i64 0) := Z2.cell 2
  have z3 : w2.cell? ⟨Y + 1, 3, none⟩ = some (.string ⟨#[]⟩) := Z2.cell 3
  have z4 : w2.cell? ⟨Y + 1, 4, none⟩ = some (.slice none 0 0) := Z2.cell 4
  have gz : ∀ i, w2.frozen? ⟨Y + 1, i, none⟩ = false := Z2.free
  have B2 := Lib.hid (B1h.out.trans (b2.mono (by omega)))
  clear b2 K2 Z2 e3 K1h Z1h B1h W1
  go_wp2_with fail
  refine (clone_nil _).mono ?_
  rintro e w3 ⟨rfl, rfl⟩
  go_wp2_with fail
  go_rounds 1
  refine bodyPost_ret (by simp [results, Try.results43, go_sem, c1, c2, c3, c4, z0, z1, z2, z3, z4]; try rfl) rfl ?_
  refine ⟨rfl, ?_⟩
  have l0 : Y ≤ Y := Nat.le_refl _
  have l1 : Y ≤ Y + 1 := Nat.le_succ _
  exact (((((((B2.out.setCell (p := ⟨Y, 3, none⟩) l0 _).setCell (p := ⟨Y, 4, none⟩) l0 _).setCell (p := ⟨Y + 1, 0, none⟩) l1 _).setCell (p := ⟨Y + 1, 1, none⟩) l1 _).setCell (p := ⟨Y + 1, 2, none⟩) l1 _).setCell (p := ⟨Y + 1, 3, none⟩) l1 _).setCell (p := ⟨Y + 1, 4, none⟩) l1 _)
end Go.Proofs.Ytbghjcfepjbppaa
