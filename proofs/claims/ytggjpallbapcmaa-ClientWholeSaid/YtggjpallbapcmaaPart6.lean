/-
  WHAT THE ROWS REST ON, part 6: BRnum BWrites BFront BText.
-/
import Derived.Laws.AppendOwn
import Derived.Laws.OwnMore
import Derived.OwnWalk
import Derived.Lib.SmallJoins
import Derived.Test.YtggjpallbapcmaaPart5
/-
  THE WALK OF THE DOCUMENT'S OWN Num (auspiceref01): the bytes are appended one by one to a slice of its own.
-/
namespace Go.Proofs.Ytggjpallbapcmaa.Bt
open Go.RowKit

theorem info5 : (Try.prog.info? 5).map (fun i => (i.zero, i.size, i.bytes)) = some (some (.int .u8 0), 1, 1) := by kernel_rfl
/-- a slice of bytes that the call owns, from block B on -/
def Bytes (w : World) (B : Nat) (v : Value) (xs : List Int) : Prop := w.ownsRow B 5 1 v xs.length (xs.map (Value.int .u8))

theorem Bytes.lit (w : World) (B : Nat) (hb : B ≤ w.heap.size) (xs : List Int) (hm : xs.length ≤ maxLen) :
    Bytes (w.alloc (.cells (xs.map (Value.int .u8)).toArray 5)) B (.slice (some ⟨w.heap.size, 0, none⟩) xs.length xs.length) xs := by
  have h := World.ownsRow_lit (base := B) (e := 5) (size := 1) w (xs.map (Value.int .u8)).toArray xs.length hb hm (by simp)
  simpa [Bytes] using h

theorem Bytes.drew {w : World} {B : Nat} {v : Value} {xs : List Int} (h : Bytes w B v xs) : Bytes w.drew B v xs := h

theorem append_byte {ops : Array Oper} {rest : List Oper} {o : Oper} {a : Act} {Q : Exit → Act → World → Prop} (W : World) (hgd : o.guard = none) (s x : Operand)
    (ho : o.op = .call { callee := .builtin .append, args := #[s, x], argTypes := #[153, 153] })
    (B : Nat) (v : Value) (xs : List Int) (hs : a.eval s = v) (hown : Bytes W B v xs) (c : Int)
    (hx : a.eval x = .slice (some ⟨W.heap.size, 0, none⟩) 1 1) (hlen : xs.length + 1 ≤ 140737488355328) (hB : B ≤ W.heap.size)
    (h : ∀ v' w', Bytes w' B v' (xs ++ [c]) → Below B W w' → wpList Try.prog ops Q rest (a.put o.dst v') w') :
    wpList Try.prog ops Q (o :: rest) a (W.alloc (.cells #[.int .u8 c] 5)) := by
  obtain ⟨i, hi, hz0, hz1, hz2⟩ := info_parts info5
  refine wpList_append_own _ hgd s x 153 ho B 5 i (.int .u8 0) 1 1 Try.underlying153 hi hz0 hz1 hz2 rfl (by decide) v xs.length (xs.map (Value.int .u8)) hs (hown.alloc _) ⟨W.heap.size, 0, none⟩ 1 1 [.int .u8 c] hx rfl ?_ ?_ ?_ ?_ ?_ ?_
  · exact cell_one_new _ _ _
  · intro u hu; simp at hu; subst hu; rfl
  · unfold maxLen; omega
  · omega
  · simp; omega
  · intro v' w' ho' hg _
    refine h v' w' ?_ ?_
    · simpa [Bytes] using ho'
    · refine (((Below.refl B W).alloc hB _).grown hg (by simp; omega) ?_)
      intro k hk
      obtain ⟨_, h2⟩ := hown
      rcases h2 with ⟨rfl, _⟩ | ⟨g, cap, cur, rfl, hg', _⟩
      · simp [Value.ownBlock] at hk
      · simp [Value.ownBlock] at hk; omega


theorem conv_own {W : World} {B : Nat} {v : Value} {xs : List Int} (h : Bytes W B v xs) : (convert 153 9 v).run Try.prog W = .ok (.string (strOfNums xs)) W := by
  rcases Joins.ownsRow_forms h with ⟨rfl, hn⟩ | ⟨g, cap, rfl⟩
  · rw [run_convert_bytes_nil (P := Try.prog) W 153 5 Try.underlying153 Try.underlying5 0 0 9 Try.underlying9]
    rw [List.eq_nil_of_length_eq_zero hn]; rfl
  · refine run_convert_bytes_arg (P := Try.prog) W 153 5 Try.underlying153 Try.underlying5 g 0 xs.length cap xs rfl ?_ 9 Try.underlying9
    intro i hi
    have e := World.ownsRow.cellAt h i (by omega)
    rw [Nat.zero_add, e]
    simp [List.getD, List.getElem?_eq_getElem hi]



set_option maxRecDepth 100000 in
set_option maxHeartbeats 1000000 in
theorem rnum_1 (n : Int) (h0 : 248 ≤ n) (h1 : n < 256) (w : World) :
    Calls Try.prog 101 #[.int .u64 n] w fun e w' => e = .returned (.string (strOfNums [248, n])) ∧ Below w.heap.size w w' := by
  have hn : ¬ n ≤ 247 := by omega
  go_enter Try.func101, Try.ntmps101
  go_wp2
  go_rounds 9
  have o0 := Bytes.lit w w.heap.size (Nat.le_refl _) [248] (by decide)
  have b0 := (Below.refl w.heap.size w).alloc (Nat.le_refl _) (.cells #[.int .u8 248] 5)
  simp only [List.map_cons, List.map_nil, List.length_cons, List.length_nil, Nat.zero_add] at o0
  refine wp_loop_rounds 10 ?_
  generalize w.alloc (.cells #[.int .u8 248] 5) = w0 at *
  have z0 := b0.size
  rw [rounds_succ]
  go_wp2_with (at_builtin; refine append_byte _ rfl _ _ rfl w.heap.size _ _ rfl o0 _ rfl (by simp) (by omega) ?_; intro v1 w1 o1 b1)
  have z1 := b1.size
  have hcv := conv_own o1
  rw [rounds_succ]
  go_wp2_with fail
  go_ret
  exact ⟨rfl, (b0.trans b1)⟩


set_option maxRecDepth 100000 in
set_option maxHeartbeats 1000000 in
theorem rnum_2 (n : Int) (h0 : 256 ≤ n) (h1 : n < 65536) (w : World) :
    Calls Try.prog 101 #[.int .u64 n] w fun e w' => e = .returned (.string (strOfNums [249, n / 256, n % 256])) ∧ Below w.heap.size w w' := by
  have hn : ¬ n ≤ 247 := by omega
  go_enter Try.func101, Try.ntmps101
  go_wp2
  go_rounds 9
  have o0 := Bytes.lit w w.heap.size (Nat.le_refl _) [249] (by decide)
  have b0 := (Below.refl w.heap.size w).alloc (Nat.le_refl _) (.cells #[.int .u8 249] 5)
  simp only [List.map_cons, List.map_nil, List.length_cons, List.length_nil, Nat.zero_add] at o0
  refine wp_loop_rounds 10 ?_
  generalize w.alloc (.cells #[.int .u8 249] 5) = w0 at *
  have z0 := b0.size
  rw [rounds_succ]
  go_wp2_with (at_builtin; refine append_byte _ rfl _ _ rfl w.heap.size _ _ rfl o0 _ rfl (by simp) (by omega) ?_; intro v1 w1 o1 b1)
  have z1 := b1.size
  rw [rounds_succ]
  go_wp2_with (at_builtin; refine append_byte _ rfl _ _ rfl w.heap.size _ _ rfl o1 _ rfl (by simp) (by omega) ?_; intro v2 w2 o2 b2)
  have z2 := b2.size
  have hcv := conv_own o2
  rw [rounds_succ]
  go_wp2_with fail
  go_ret
  exact ⟨rfl, ((b0.trans b1).trans b2)⟩


set_option maxRecDepth 100000 in
set_option maxHeartbeats 1000000 in
theorem rnum_3 (n : Int) (h0 : 65536 ≤ n) (h1 : n < 16777216) (w : World) :
    Calls Try.prog 101 #[.int .u64 n] w fun e w' => e = .returned (.string (strOfNums [250, n / 65536, n / 256 % 256, n % 256])) ∧ Below w.heap.size w w' := by
  have hn : ¬ n ≤ 247 := by omega
  go_enter Try.func101, Try.ntmps101
  go_wp2
  go_rounds 9
  have o0 := Bytes.lit w w.heap.size (Nat.le_refl _) [250] (by decide)
  have b0 := (Below.refl w.heap.size w).alloc (Nat.le_refl _) (.cells #[.int .u8 250] 5)
  simp only [List.map_cons, List.map_nil, List.length_cons, List.length_nil, Nat.zero_add] at o0
  refine wp_loop_rounds 10 ?_
  generalize w.alloc (.cells #[.int .u8 250] 5) = w0 at *
  have z0 := b0.size
  rw [rounds_succ]
  go_wp2_with (at_builtin; refine append_byte _ rfl _ _ rfl w.heap.size _ _ rfl o0 _ rfl (by simp) (by omega) ?_; intro v1 w1 o1 b1)
  have z1 := b1.size
  rw [rounds_succ]
  go_wp2_with (at_builtin; refine append_byte _ rfl _ _ rfl w.heap.size _ _ rfl o1 _ rfl (by simp) (by omega) ?_; intro v2 w2 o2 b2)
  have z2 := b2.size
  rw [rounds_succ]
  go_wp2_with (at_builtin; refine append_byte _ rfl _ _ rfl w.heap.size _ _ rfl o2 _ rfl (by simp) (by omega) ?_; intro v3 w3 o3 b3)
  have z3 := b3.size
  have hcv := conv_own o3
  rw [rounds_succ]
  go_wp2_with fail
  go_ret
  exact ⟨rfl, (((b0.trans b1).trans b2).trans b3)⟩


set_option maxRecDepth 100000 in
set_option maxHeartbeats 1000000 in
theorem rnum_4 (n : Int) (h0 : 16777216 ≤ n) (h1 : n < 4294967296) (w : World) :
    Calls Try.prog 101 #[.int .u64 n] w fun e w' => e = .returned (.string (strOfNums [251, n / 16777216, n / 65536 % 256, n / 256 % 256, n % 256])) ∧ Below w.heap.size w w' := by
  have hn : ¬ n ≤ 247 := by omega
  go_enter Try.func101, Try.ntmps101
  go_wp2
  go_rounds 9
  have o0 := Bytes.lit w w.heap.size (Nat.le_refl _) [251] (by decide)
  have b0 := (Below.refl w.heap.size w).alloc (Nat.le_refl _) (.cells #[.int .u8 251] 5)
  simp only [List.map_cons, List.map_nil, List.length_cons, List.length_nil, Nat.zero_add] at o0
  refine wp_loop_rounds 10 ?_
  generalize w.alloc (.cells #[.int .u8 251] 5) = w0 at *
  have z0 := b0.size
  rw [rounds_succ]
  go_wp2_with (at_builtin; refine append_byte _ rfl _ _ rfl w.heap.size _ _ rfl o0 _ rfl (by simp) (by omega) ?_; intro v1 w1 o1 b1)
  have z1 := b1.size
  rw [rounds_succ]
  go_wp2_with (at_builtin; refine append_byte _ rfl _ _ rfl w.heap.size _ _ rfl o1 _ rfl (by simp) (by omega) ?_; intro v2 w2 o2 b2)
  have z2 := b2.size
  rw [rounds_succ]
  go_wp2_with (at_builtin; refine append_byte _ rfl _ _ rfl w.heap.size _ _ rfl o2 _ rfl (by simp) (by omega) ?_; intro v3 w3 o3 b3)
  have z3 := b3.size
  rw [rounds_succ]
  go_wp2_with (at_builtin; refine append_byte _ rfl _ _ rfl w.heap.size _ _ rfl o3 _ rfl (by simp) (by omega) ?_; intro v4 w4 o4 b4)
  have z4 := b4.size
  have hcv := conv_own o4
  rw [rounds_succ]
  go_wp2_with fail
  go_ret
  exact ⟨rfl, ((((b0.trans b1).trans b2).trans b3).trans b4)⟩


set_option maxRecDepth 100000 in
set_option maxHeartbeats 1000000 in
theorem rnum_5 (n : Int) (h0 : 4294967296 ≤ n) (h1 : n < 1099511627776) (w : World) :
    Calls Try.prog 101 #[.int .u64 n] w fun e w' => e = .returned (.string (strOfNums [252, n / 4294967296, n / 16777216 % 256, n / 65536 % 256, n / 256 % 256, n % 256])) ∧ Below w.heap.size w w' := by
  have hn : ¬ n ≤ 247 := by omega
  go_enter Try.func101, Try.ntmps101
  go_wp2
  go_rounds 9
  have o0 := Bytes.lit w w.heap.size (Nat.le_refl _) [252] (by decide)
  have b0 := (Below.refl w.heap.size w).alloc (Nat.le_refl _) (.cells #[.int .u8 252] 5)
  simp only [List.map_cons, List.map_nil, List.length_cons, List.length_nil, Nat.zero_add] at o0
  refine wp_loop_rounds 10 ?_
  generalize w.alloc (.cells #[.int .u8 252] 5) = w0 at *
  have z0 := b0.size
  rw [rounds_succ]
  go_wp2_with (at_builtin; refine append_byte _ rfl _ _ rfl w.heap.size _ _ rfl o0 _ rfl (by simp) (by omega) ?_; intro v1 w1 o1 b1)
  have z1 := b1.size
  rw [rounds_succ]
  go_wp2_with (at_builtin; refine append_byte _ rfl _ _ rfl w.heap.size _ _ rfl o1 _ rfl (by simp) (by omega) ?_; intro v2 w2 o2 b2)
  have z2 := b2.size
  rw [rounds_succ]
  go_wp2_with (at_builtin; refine append_byte _ rfl _ _ rfl w.heap.size _ _ rfl o2 _ rfl (by simp) (by omega) ?_; intro v3 w3 o3 b3)
  have z3 := b3.size
  rw [rounds_succ]
  go_wp2_with (at_builtin; refine append_byte _ rfl _ _ rfl w.heap.size _ _ rfl o3 _ rfl (by simp) (by omega) ?_; intro v4 w4 o4 b4)
  have z4 := b4.size
  rw [rounds_succ]
  go_wp2_with (at_builtin; refine append_byte _ rfl _ _ rfl w.heap.size _ _ rfl o4 _ rfl (by simp) (by omega) ?_; intro v5 w5 o5 b5)
  have z5 := b5.size
  have hcv := conv_own o5
  rw [rounds_succ]
  go_wp2_with fail
  go_ret
  exact ⟨rfl, (((((b0.trans b1).trans b2).trans b3).trans b4).trans b5)⟩


set_option maxRecDepth 100000 in
set_option maxHeartbeats 1000000 in
theorem rnum_6 (n : Int) (h0 : 1099511627776 ≤ n) (h1 : n < 281474976710656) (w : World) :
    Calls Try.prog 101 #[.int .u64 n] w fun e w' => e = .returned (.string (strOfNums [253, n / 1099511627776, n / 4294967296 % 256, n / 16777216 % 256, n / 65536 % 256, n / 256 % 256, n % 256])) ∧ Below w.heap.size w w' := by
  have hn : ¬ n ≤ 247 := by omega
  go_enter Try.func101, Try.ntmps101
  go_wp2
  go_rounds 9
  have o0 := Bytes.lit w w.heap.size (Nat.le_refl _) [253] (by decide)
  have b0 := (Below.refl w.heap.size w).alloc (Nat.le_refl _) (.cells #[.int .u8 253] 5)
  simp only [List.map_cons, List.map_nil, List.length_cons, List.length_nil, Nat.zero_add] at o0
  refine wp_loop_rounds 10 ?_
  generalize w.alloc (.cells #[.int .u8 253] 5) = w0 at *
  have z0 := b0.size
  rw [rounds_succ]
  go_wp2_with (at_builtin; refine append_byte _ rfl _ _ rfl w.heap.size _ _ rfl o0 _ rfl (by simp) (by omega) ?_; intro v1 w1 o1 b1)
  have z1 := b1.size
  rw [rounds_succ]
  go_wp2_with (at_builtin; refine append_byte _ rfl _ _ rfl w.heap.size _ _ rfl o1 _ rfl (by simp) (by omega) ?_; intro v2 w2 o2 b2)
  have z2 := b2.size
  rw [rounds_succ]
  go_wp2_with (at_builtin; refine append_byte _ rfl _ _ rfl w.heap.size _ _ rfl o2 _ rfl (by simp) (by omega) ?_; intro v3 w3 o3 b3)
  have z3 := b3.size
  rw [rounds_succ]
  go_wp2_with (at_builtin; refine append_byte _ rfl _ _ rfl w.heap.size _ _ rfl o3 _ rfl (by simp) (by omega) ?_; intro v4 w4 o4 b4)
  have z4 := b4.size
  rw [rounds_succ]
  go_wp2_with (at_builtin; refine append_byte _ rfl _ _ rfl w.heap.size _ _ rfl o4 _ rfl (by simp) (by omega) ?_; intro v5 w5 o5 b5)
  have z5 := b5.size
  rw [rounds_succ]
  go_wp2_with (at_builtin; refine append_byte _ rfl _ _ rfl w.heap.size _ _ rfl o5 _ rfl (by simp) (by omega) ?_; intro v6 w6 o6 b6)
  have z6 := b6.size
  have hcv := conv_own o6
  rw [rounds_succ]
  go_wp2_with fail
  go_ret
  exact ⟨rfl, ((((((b0.trans b1).trans b2).trans b3).trans b4).trans b5).trans b6)⟩


set_option maxRecDepth 100000 in
set_option maxHeartbeats 1000000 in
theorem rnum_7 (n : Int) (h0 : 281474976710656 ≤ n) (h1 : n < 72057594037927936) (w : World) :
    Calls Try.prog 101 #[.int .u64 n] w fun e w' => e = .returned (.string (strOfNums [254, n / 281474976710656, n / 1099511627776 % 256, n / 4294967296 % 256, n / 16777216 % 256, n / 65536 % 256, n / 256 % 256, n % 256])) ∧ Below w.heap.size w w' := by
  have hn : ¬ n ≤ 247 := by omega
  go_enter Try.func101, Try.ntmps101
  go_wp2
  go_rounds 9
  have o0 := Bytes.lit w w.heap.size (Nat.le_refl _) [254] (by decide)
  have b0 := (Below.refl w.heap.size w).alloc (Nat.le_refl _) (.cells #[.int .u8 254] 5)
  simp only [List.map_cons, List.map_nil, List.length_cons, List.length_nil, Nat.zero_add] at o0
  refine wp_loop_rounds 10 ?_
  generalize w.alloc (.cells #[.int .u8 254] 5) = w0 at *
  have z0 := b0.size
  rw [rounds_succ]
  go_wp2_with (at_builtin; refine append_byte _ rfl _ _ rfl w.heap.size _ _ rfl o0 _ rfl (by simp) (by omega) ?_; intro v1 w1 o1 b1)
  have z1 := b1.size
  rw [rounds_succ]
  go_wp2_with (at_builtin; refine append_byte _ rfl _ _ rfl w.heap.size _ _ rfl o1 _ rfl (by simp) (by omega) ?_; intro v2 w2 o2 b2)
  have z2 := b2.size
  rw [rounds_succ]
  go_wp2_with (at_builtin; refine append_byte _ rfl _ _ rfl w.heap.size _ _ rfl o2 _ rfl (by simp) (by omega) ?_; intro v3 w3 o3 b3)
  have z3 := b3.size
  rw [rounds_succ]
  go_wp2_with (at_builtin; refine append_byte _ rfl _ _ rfl w.heap.size _ _ rfl o3 _ rfl (by simp) (by omega) ?_; intro v4 w4 o4 b4)
  have z4 := b4.size
  rw [rounds_succ]
  go_wp2_with (at_builtin; refine append_byte _ rfl _ _ rfl w.heap.size _ _ rfl o4 _ rfl (by simp) (by omega) ?_; intro v5 w5 o5 b5)
  have z5 := b5.size
  rw [rounds_succ]
  go_wp2_with (at_builtin; refine append_byte _ rfl _ _ rfl w.heap.size _ _ rfl o5 _ rfl (by simp) (by omega) ?_; intro v6 w6 o6 b6)
  have z6 := b6.size
  rw [rounds_succ]
  go_wp2_with (at_builtin; refine append_byte _ rfl _ _ rfl w.heap.size _ _ rfl o6 _ rfl (by simp) (by omega) ?_; intro v7 w7 o7 b7)
  have z7 := b7.size
  have hcv := conv_own o7
  rw [rounds_succ]
  go_wp2_with fail
  go_ret
  exact ⟨rfl, (((((((b0.trans b1).trans b2).trans b3).trans b4).trans b5).trans b6).trans b7)⟩


set_option maxRecDepth 100000 in
set_option maxHeartbeats 1000000 in
theorem rnum_8 (n : Int) (h0 : 72057594037927936 ≤ n) (h1 : n < 18446744073709551616) (w : World) :
    Calls Try.prog 101 #[.int .u64 n] w fun e w' => e = .returned (.string (strOfNums [255, n / 72057594037927936, n / 281474976710656 % 256, n / 1099511627776 % 256, n / 4294967296 % 256, n / 16777216 % 256, n / 65536 % 256, n / 256 % 256, n % 256])) ∧ Below w.heap.size w w' := by
  have hn : ¬ n ≤ 247 := by omega
  go_enter Try.func101, Try.ntmps101
  go_wp2
  go_rounds 9
  have o0 := Bytes.lit w w.heap.size (Nat.le_refl _) [255] (by decide)
  have b0 := (Below.refl w.heap.size w).alloc (Nat.le_refl _) (.cells #[.int .u8 255] 5)
  simp only [List.map_cons, List.map_nil, List.length_cons, List.length_nil, Nat.zero_add] at o0
  refine wp_loop_rounds 10 ?_
  generalize w.alloc (.cells #[.int .u8 255] 5) = w0 at *
  have z0 := b0.size
  rw [rounds_succ]
  go_wp2_with (at_builtin; refine append_byte _ rfl _ _ rfl w.heap.size _ _ rfl o0 _ rfl (by simp) (by omega) ?_; intro v1 w1 o1 b1)
  have z1 := b1.size
  rw [rounds_succ]
  go_wp2_with (at_builtin; refine append_byte _ rfl _ _ rfl w.heap.size _ _ rfl o1 _ rfl (by simp) (by omega) ?_; intro v2 w2 o2 b2)
  have z2 := b2.size
  rw [rounds_succ]
  go_wp2_with (at_builtin; refine append_byte _ rfl _ _ rfl w.heap.size _ _ rfl o2 _ rfl (by simp) (by omega) ?_; intro v3 w3 o3 b3)
  have z3 := b3.size
  rw [rounds_succ]
  go_wp2_with (at_builtin; refine append_byte _ rfl _ _ rfl w.heap.size _ _ rfl o3 _ rfl (by simp) (by omega) ?_; intro v4 w4 o4 b4)
  have z4 := b4.size
  rw [rounds_succ]
  go_wp2_with (at_builtin; refine append_byte _ rfl _ _ rfl w.heap.size _ _ rfl o4 _ rfl (by simp) (by omega) ?_; intro v5 w5 o5 b5)
  have z5 := b5.size
  rw [rounds_succ]
  go_wp2_with (at_builtin; refine append_byte _ rfl _ _ rfl w.heap.size _ _ rfl o5 _ rfl (by simp) (by omega) ?_; intro v6 w6 o6 b6)
  have z6 := b6.size
  rw [rounds_succ]
  go_wp2_with (at_builtin; refine append_byte _ rfl _ _ rfl w.heap.size _ _ rfl o6 _ rfl (by simp) (by omega) ?_; intro v7 w7 o7 b7)
  have z7 := b7.size
  rw [rounds_succ]
  go_wp2_with (at_builtin; refine append_byte _ rfl _ _ rfl w.heap.size _ _ rfl o7 _ rfl (by simp) (by omega) ?_; intro v8 w8 o8 b8)
  have z8 := b8.size
  have hcv := conv_own o8
  rw [rounds_succ]
  go_wp2_with fail
  go_ret
  exact ⟨rfl, ((((((((b0.trans b1).trans b2).trans b3).trans b4).trans b5).trans b6).trans b7).trans b8)⟩


theorem rnum_0 (n : Int) (h0 : 0 ≤ n) (h1 : n ≤ 247) (w : World) :
    Calls Try.prog 101 #[.int .u64 n] w fun e w' => e = .returned (.string (strOfNums [n])) ∧ Below w.heap.size w w' := by
  have hconv := fun W : World => conv_new W [.int .u8 n] [n] 0 rfl 1 rfl 5 1
  go_enter Try.func101, Try.ntmps101
  go_wp2
  go_ret
  exact ⟨rfl, (Below.refl _ _).alloc (Nat.le_refl _) _⟩
theorem ret_nums {a b : List Int} {e : Ending} (h : a = b) (he : e = .returned (.string (strOfNums a))) : e = .returned (.string (strOfNums b)) := by rw [he, h]
theorem rnum_any (n : Int) (h0 : 0 ≤ n) (h1 : n < 18446744073709551616) (w : World) :
    Calls Try.prog 101 #[.int .u64 n] w fun e w' => e = .returned (.string (numS n)) ∧ Below w.heap.size w w' := by
  unfold numS numI wid
  by_cases hn : n ≤ 247
  · rw [if_pos hn]; exact rnum_0 n h0 hn w
  rw [if_neg hn]
  by_cases g1 : n < 256
  · rw [if_pos g1]
    refine (rnum_1 n (by omega) (by omega) w).mono fun e w' ⟨he, hb⟩ => ⟨ret_nums ?_ he, hb⟩
    simp only [be, List.nil_append, List.cons.injEq, and_true]; omega
  by_cases g2 : n < 65536
  · rw [if_neg g1, if_pos g2]
    refine (rnum_2 n (by omega) (by omega) w).mono fun e w' ⟨he, hb⟩ => ⟨ret_nums ?_ he, hb⟩
    simp only [be, List.nil_append, List.cons_append, List.cons.injEq, and_true]; omega
  by_cases g3 : n < 16777216
  · rw [if_neg g1, if_neg g2, if_pos g3]
    refine (rnum_3 n (by omega) (by omega) w).mono fun e w' ⟨he, hb⟩ => ⟨ret_nums ?_ he, hb⟩
    simp only [be, List.nil_append, List.cons_append, List.cons.injEq, and_true]; omega
  by_cases g4 : n < 4294967296
  · rw [if_neg g1, if_neg g2, if_neg g3, if_pos g4]
    refine (rnum_4 n (by omega) (by omega) w).mono fun e w' ⟨he, hb⟩ => ⟨ret_nums ?_ he, hb⟩
    simp only [be, List.nil_append, List.cons_append, List.cons.injEq, and_true]; omega
  by_cases g5 : n < 1099511627776
  · rw [if_neg g1, if_neg g2, if_neg g3, if_neg g4, if_pos g5]
    refine (rnum_5 n (by omega) (by omega) w).mono fun e w' ⟨he, hb⟩ => ⟨ret_nums ?_ he, hb⟩
    simp only [be, List.nil_append, List.cons_append, List.cons.injEq, and_true]; omega
  by_cases g6 : n < 281474976710656
  · rw [if_neg g1, if_neg g2, if_neg g3, if_neg g4, if_neg g5, if_pos g6]
    refine (rnum_6 n (by omega) (by omega) w).mono fun e w' ⟨he, hb⟩ => ⟨ret_nums ?_ he, hb⟩
    simp only [be, List.nil_append, List.cons_append, List.cons.injEq, and_true]; omega
  by_cases g7 : n < 72057594037927936
  · rw [if_neg g1, if_neg g2, if_neg g3, if_neg g4, if_neg g5, if_neg g6, if_pos g7]
    refine (rnum_7 n (by omega) (by omega) w).mono fun e w' ⟨he, hb⟩ => ⟨ret_nums ?_ he, hb⟩
    simp only [be, List.nil_append, List.cons_append, List.cons.injEq, and_true]; omega
  rw [if_neg g1, if_neg g2, if_neg g3, if_neg g4, if_neg g5, if_neg g6, if_neg g7]
  refine (rnum_8 n (by omega) (by omega) w).mono fun e w' ⟨he, hb⟩ => ⟨ret_nums ?_ he, hb⟩
  simp only [be, List.nil_append, List.cons_append, List.cons.injEq, and_true]; omega

end Go.Proofs.Ytggjpallbapcmaa.Bt
/-
  THE WALKS OF bits.Int, bits.Text, bits.Flag and the document's own: over Num's contracts.
-/
namespace Go.Proofs.Ytggjpallbapcmaa.Bt
open Go.RowKit
theorem zig_lt {n : Int} (h0 : -9223372036854775808 ≤ n) (h1 : n ≤ 9223372036854775807) : ((Lib.zigzag n : Nat) : Int) < 18446744073709551616 := by
  have := Lib.zigzag_lt h0 h1; omega
theorem be_len (k : Nat) : ∀ n, (be k n).length = k := by
  induction k with
  | zero => intro n; rfl
  | succ k ih => intro n; simp [be, ih]
theorem wid_le (n : Int) : 1 ≤ wid n ∧ wid n ≤ 8 := by
  unfold wid
  repeat' split
  all_goals omega
theorem numS_size (n : Int) : (numS n).size ≤ 9 := by
  unfold numS numI
  rw [strOfNums_size]
  have := (wid_le n).2
  split
  · simp
  · rw [List.length_cons, be_len]; omega
def intS (n : Int) : ByteArray := numS ((Lib.zigzag n : Nat) : Int)
theorem int_any (n : Int) (h0 : -9223372036854775808 ≤ n) (h1 : n ≤ 9223372036854775807) (w : World) :
    Calls Try.prog 104 #[.int .i64 n] w fun e w' => e = .returned (.string (intS n)) ∧ Below w.heap.size w w' := by
  go_enter Try.func104, Try.ntmps104
  go_wp2_with fail
  refine (fold_any n h0 h1 _).mono ?_
  rintro e w1 ⟨rfl, rfl⟩
  go_wp2_with fail
  refine (num_any _ (Int.natCast_nonneg _) (zig_lt h0 h1) _).mono ?_
  rintro e w1 ⟨rfl, hb⟩
  go_wp2_with fail
  go_ret
  exact ⟨rfl, hb⟩
theorem rint_any (n : Int) (h0 : -9223372036854775808 ≤ n) (h1 : n ≤ 9223372036854775807) (w : World) :
    Calls Try.prog 102 #[.int .i64 n] w fun e w' => e = .returned (.string (intS n)) ∧ Below w.heap.size w w' := by
  by_cases hn : 0 ≤ n
  · have e1 : Hid (((Lib.zigzag n : Nat) : Int) = 2 * n) := by have := Lib.zigzag_nonneg hn; unfold Hid; omega
    go_enter Try.func102, Try.ntmps102
    go_wp2_with fail
    refine (rnum_any _ (by omega) (by omega) _).mono ?_
    rintro e w1 ⟨rfl, hb⟩
    go_wp2_with fail
    go_ret
    exact ⟨by unfold intS; rw [e1.out]; rfl, hb⟩
  · have e1 : Hid (((Lib.zigzag n : Nat) : Int) = 2 * (-(n + 1)) + 1) := by unfold Hid Lib.zigzag; rw [if_neg hn]; omega
    go_enter Try.func102, Try.ntmps102
    go_wp2_with fail
    refine (rnum_any _ (by omega) (by omega) _).mono ?_
    rintro e w1 ⟨rfl, hb⟩
    go_wp2_with fail
    go_ret
    exact ⟨by unfold intS; rw [e1.out]; rfl, hb⟩
/-- the bytes of a text -/
def textS (s : ByteArray) : ByteArray := numS (s.size : Int) ++ s
theorem text_any (s : ByteArray) (hs : s.size ≤ 9223372036854775798) (w : World) :
    Calls Try.prog 87 #[.string s] w fun e w' => e = .returned (.string (textS s)) ∧ Below w.heap.size w w' := by
  have hz := numS_size (s.size : Int)
  have hz2 : (numS (s.size : Int)).size + s.size ≤ 9223372036854775807 := by omega
  go_enter Try.func87, Try.ntmps87
  go_wp2_with fail
  refine (num_any _ (Int.natCast_nonneg _) (by omega) _).mono ?_
  rintro e w1 ⟨rfl, hb⟩
  go_wp2_with fail
  go_ret
  exact ⟨rfl, hb⟩
theorem rtext_any (s : ByteArray) (hs : s.size ≤ 9223372036854775798) (w : World) :
    Calls Try.prog 93 #[.string s] w fun e w' => e = .returned (.string (textS s)) ∧ Below w.heap.size w w' := by
  have hz := numS_size (s.size : Int)
  have hz2 : (numS (s.size : Int)).size + s.size ≤ 9223372036854775807 := by omega
  go_enter Try.func93, Try.ntmps93
  go_wp2_with fail
  refine (rnum_any _ (Int.natCast_nonneg _) (by omega) _).mono ?_
  rintro e w1 ⟨rfl, hb⟩
  go_wp2_with fail
  go_ret
  exact ⟨rfl, hb⟩
def flagS (b : Bool) : ByteArray := if b then ⟨#[1]⟩ else ⟨#[0]⟩
end Go.Proofs.Ytggjpallbapcmaa.Bt
/-
  THE WALKS OF bits.join, least, unfold, number: what stands at the front of bytes.
-/
namespace Go.Proofs.Ytggjpallbapcmaa.Bt
open Go.RowKit
/-- the number whose bytes a list has, the highest first -/
def joinN (l : List UInt8) : Nat := l.foldl (fun n b => n * 256 + b.toNat) 0
theorem joinN_snoc (l : List UInt8) (b : UInt8) : joinN (l ++ [b]) = joinN l * 256 + b.toNat := by
  unfold joinN; rw [List.foldl_append]; rfl
theorem joinN_aux (l : List UInt8) : ∀ a : Nat, l.foldl (fun n b => n * 256 + b.toNat) a < (a + 1) * 256 ^ l.length := by
  induction l with
  | nil => intro a; simp
  | cons b l ih =>
    intro a
    rw [List.foldl_cons, List.length_cons, Nat.pow_succ]
    have hb := b.toNat_lt
    refine Nat.lt_of_lt_of_le (ih _) ?_
    rw [Nat.mul_comm (256 ^ l.length), ← Nat.mul_assoc]
    exact Nat.mul_le_mul_right _ (by omega)
theorem joinN_lt (l : List UInt8) : joinN l < 256 ^ l.length := by
  have := joinN_aux l 0
  simpa [joinN] using this
theorem take_snoc (s : ByteArray) (k : Nat) (h : k < s.size) : s.data.toList.take (k + 1) = s.data.toList.take k ++ [s[k]] := by
  rw [List.take_succ_eq_append_getElem (by simpa using h)]; rfl
theorem or_join (n : Nat) (b : UInt8) (h : n < 72057594037927936) : bits .or .u64 ((n : Int) * 256) (b.toNat : Int) = ((n * 256 + b.toNat : Nat) : Int) := by
  have hb := b.toNat_lt
  have e : ((n : Int) * 256) = ((n * 256 : Nat) : Int) := by omega
  rw [e, u64_or_nat _ _ (by omega) (by omega), nat_join 8 (n * 256) b.toNat (by omega) (by omega)]
theorem u64_byte (b : UInt8) : IntKind.u64.wrap (b.toNat : Int) = (b.toNat : Int) := by
  have := b.toNat_lt
  exact IntWalk.u64_in _ ⟨by omega, by omega⟩
theorem ret_u64 {a b : Int} (h : a = b) : Ending.returned (.int .u64 a) = .returned (.int .u64 b) := by rw [h]
set_option maxHeartbeats 400000 in
theorem join_any (s : ByteArray) (hs : s.size ≤ 8) (w : World) :
    Calls Try.prog 95 #[.string s] w fun e w' => e = .returned (.int .u64 (joinN s.data.toList)) ∧ w = w' := by
  go_enter Try.func95, Try.ntmps95
  go_wp2
  go_loop [3, 7] (fun n i => ∃ k : Nat, k ≤ s.size ∧ i = .int .i64 k ∧ n = .int .u64 (joinN (s.data.toList.take k) : Nat)) (fun _ i => s.size - (intOf i).toNat)
  case atStart => exact ⟨0, Nat.zero_le _, rfl, rfl⟩
  case round =>
    obtain ⟨k, hk, rfl, rfl⟩ := hrel
    have hl : (s.data.toList.take k).length ≤ k := List.length_take_le _ _
    by_cases hlt : k < s.size
    · have hsn := joinN_snoc (s.data.toList.take k) s[k]
      have hts := take_snoc s k hlt
      have hb0 := joinN_lt (s.data.toList.take k)
      have hb : joinN (s.data.toList.take k) < 72057594037927936 := Nat.lt_of_lt_of_le hb0 (Nat.le_trans (Nat.pow_le_pow_right (by decide) (show (s.data.toList.take k).length ≤ 7 by omega)) (by decide))
      have H := Lib.hid (hts ▸ hsn)
      have ho := or_join (joinN (s.data.toList.take k)) s[k] hb
      clear hsn hts hb0
      have hbi : (joinN (s.data.toList.take k) : Int) < 72057594037927936 := by omega
      have hw := u64_byte s[k]
      go_wp2
      go_round
      case rel => exact ⟨k + 1, by omega, by go_num, by rw [H.out]; go_num⟩
      case measure => simp [intOf]; omega
    · go_wp2
      go_ret
      exact ⟨ret_u64 (by rw [List.take_of_length_le (by simp; omega)]), rfl⟩

/-- the least number that has k bytes behind the first one -/
def leastN (k : Nat) : Nat := if k ≤ 1 then 248 else 256 ^ (k - 1)
theorem least_any (k : Int) (h1 : 1 ≤ k) (h2 : k ≤ 8) (w : World) :
    Calls Try.prog 96 #[.int .i64 k] w fun e w' => e = .returned (.int .u64 (leastN k.toNat)) ∧ w = w' := by
  have hk : k = 1 ∨ k = 2 ∨ k = 3 ∨ k = 4 ∨ k = 5 ∨ k = 6 ∨ k = 7 ∨ k = 8 := by omega
  rcases hk with rfl | rfl | rfl | rfl | rfl | rfl | rfl | rfl
  all_goals
    go_enter Try.func96, Try.ntmps96
    go_wp2
    go_ret
    exact ⟨rfl, rfl⟩
def unz (n : Nat) : Int := if n % 2 = 0 then (n / 2 : Nat) else -((n / 2 : Nat) : Int) - 1
theorem i64_xor_m1 (x : Nat) (hx : x < 9223372036854775808) : bits .xor .i64 (x : Int) (-1) = -(x : Int) - 1 := by
  show IntKind.i64.wrap ((BitVec.ofInt 64 (x : Int) ^^^ BitVec.ofInt 64 (-1)).toNat : Int) = _
  rw [BitVec.xor_comm]
  exact Lib.i64_not x hx
theorem i64_xor_0 (x : Nat) (hx : x < 9223372036854775808) : bits .xor .i64 (x : Int) 0 = (x : Int) := by
  show IntKind.i64.wrap ((BitVec.ofInt 64 (x : Int) ^^^ BitVec.ofInt 64 0).toNat : Int) = _
  have h2 : (BitVec.ofInt 64 (x : Int)).toNat = x := by
    rw [BitVec.ofInt_natCast, BitVec.toNat_ofNat]; exact Nat.mod_eq_of_lt (by omega)
  rw [BitVec.toNat_xor, h2, show (BitVec.ofInt 64 0).toNat = 0 from by decide, Nat.xor_zero, IntKind.wrap_i64]
  omega
theorem ret_i64 {a b : Int} (h : a = b) : Ending.returned (.int .i64 a) = .returned (.int .i64 b) := by rw [h]
def rdNum : List UInt8 → Nat × Nat × Int
  | [] => (0, 0, 5)
  | b :: t => if b.toNat ≤ 247 then (b.toNat, 1, 0) else if t.length < b.toNat - 247 then (0, 0, 5) else
      if joinN (t.take (b.toNat - 247)) < leastN (b.toNat - 247) then (0, 0, 3) else (joinN (t.take (b.toNat - 247)), b.toNat - 247 + 1, 0)
theorem head_drop (s : ByteArray) (h : 0 < s.size) : s.data.toList = s[0] :: s.data.toList.drop 1 := by
  have hl : 0 < s.data.toList.length := by simpa using h
  exact List.drop_eq_getElem_cons (l := s.data.toList) (i := 0) hl
theorem ret_num {a b c d e : Int} (h : a = c) (h' : b = d) : Ending.returned (.tuple #[.int .u64 a, .int .i64 b, .int .i64 e]) = .returned (.tuple #[.int .u64 c, .int .i64 d, .int .i64 e]) := by rw [h, h']
set_option maxRecDepth 10000 in
set_option maxHeartbeats 400000 in
theorem number_any (s : ByteArray) (hs : s.size ≤ 9223372036854775807) (w : World) :
    Calls Try.prog 83 #[.string s] w fun e w' => e = .returned (.tuple #[.int .u64 (rdNum s.data.toList).1, .int .i64 (rdNum s.data.toList).2.1, .int .i64 (rdNum s.data.toList).2.2]) ∧ w = w' := by
  by_cases h0 : s.size = 0
  · have e0 : s = ⟨#[]⟩ := by
      apply ByteArray.ext
      exact Array.eq_empty_of_size_eq_zero h0
    subst e0
    go_enter Try.func83, Try.ntmps83
    go_wp2_with fail
    go_ret3
    exact ⟨rfl, rfl⟩
  have h1 : 0 < s.size := by omega
  have he := head_drop s h1
  have hne : s.toList.isEmpty = false := by
    rw [Lib.toList_data, he]; rfl
  have hb := s[0].toNat_lt
  have hbi : (s[0].toNat : Int) ≤ 255 := by omega
  have He := Lib.hid he
  clear he
  by_cases h2 : s[0].toNat ≤ 247
  · go_enter Try.func83, Try.ntmps83
    go_wp2_with fail
    go_ret3
    refine ⟨?_, rfl⟩
    rw [He.out]; simp only [rdNum, if_pos h2]; rfl
  by_cases h3 : s.size < s[0].toNat - 247 + 1
  · go_enter Try.func83, Try.ntmps83
    go_wp2_with fail
    go_ret3
    refine ⟨?_, rfl⟩
    rw [He.out]; simp only [rdNum, if_neg h2]; rw [if_pos (by simp; omega)]; rfl
  · go_enter Try.func83, Try.ntmps83
    go_wp2_with fail
    refine (join_any _ (by simp; omega) _).mono ?_
    rintro e w1 ⟨rfl, rfl⟩
    go_wp2_with fail
    refine (least_any _ (by omega) (by omega) _).mono ?_
    rintro e w1 ⟨rfl, rfl⟩
    generalize hJ : joinN (List.take (1 + s[0].toNat - 247 - 1) s.data.toList.tail) = J at *
    generalize hL : leastN (1 + (s[0].toNat : Int) - 247 - 1).toNat = L at *
    have HJ := Lib.hid hJ
    have HL := Lib.hid hL
    clear hJ hL
    have eJ : joinN ((s.data.toList.drop 1).take (s[0].toNat - 247)) = J := by
      rw [List.drop_one, ← HJ.out, show 1 + s[0].toNat - 247 - 1 = s[0].toNat - 247 from by omega]
    have eL : leastN (s[0].toNat - 247) = L := by
      rw [← HL.out, show (1 + (s[0].toNat : Int) - 247 - 1).toNat = s[0].toNat - 247 from by omega]
    have EJ := Lib.hid eJ
    have EL := Lib.hid eL
    clear eJ eL
    by_cases hlt : J < L
    · have hlt' : (J : Int) < (L : Int) := by omega
      go_wp2_with fail
      go_ret3
      refine ⟨?_, rfl⟩
      rw [He.out]; simp only [rdNum, if_neg h2]
      rw [if_neg (by simp; omega), EJ.out, EL.out, if_pos hlt]; rfl
    · have hlt' : ¬ (J : Int) < (L : Int) := by omega
      go_wp2_with fail
      go_ret3
      refine ⟨?_, rfl⟩
      rw [He.out]; simp only [rdNum, if_neg h2]
      rw [if_neg (by simp; omega), EJ.out, EL.out, if_neg hlt]
      refine ret_num rfl ?_
      show (1 + (s[0].toNat : Int) - 247) = ((s[0].toNat - 247 + 1 : Nat) : Int)
      omega
end Go.Proofs.Ytggjpallbapcmaa.Bt
/-
  THE WALK OF bits.text: the text of at most so many bytes at the front of bytes.
-/
namespace Go.Proofs.Ytggjpallbapcmaa.Bt
open Go.RowKit
theorem clone_any (s : ByteArray) (w : World) (hs : s.size ≤ 281474976710656) :
    Calls Try.prog 53 #[.string s] w fun e w' => e = .returned (.string s) ∧ Below w.heap.size w w' := by
  go_enter Try.func53, Try.ntmps53
  go_wp2_with fail
  refine (lite_clone s _ hs).mono ?_
  rintro e w1 ⟨rfl, hb⟩
  go_wp2_with fail
  go_ret
  exact ⟨rfl, hb⟩
theorem joinN_u64 (l : List UInt8) (h : l.length ≤ 8) : joinN l < 18446744073709551616 :=
  Nat.lt_of_lt_of_le (joinN_lt l) (Nat.le_trans (Nat.pow_le_pow_right (by decide) h) (by decide))
/-- what is read of a number lies in the bytes -/
theorem rdNum_facts (l : List UInt8) : (rdNum l).1 < 18446744073709551616 ∧ (rdNum l).2.1 ≤ l.length ∧ ((rdNum l).2.2 = 0 ∨ ((rdNum l).2.2 = 5 ∧ (rdNum l).1 = 0 ∧ (rdNum l).2.1 = 0) ∨ ((rdNum l).2.2 = 3 ∧ (rdNum l).1 = 0 ∧ (rdNum l).2.1 = 0)) := by
  match l with
  | [] => simp [rdNum]
  | b :: t =>
    have hb := b.toNat_lt
    simp only [rdNum]
    split
    · simp; omega
    · split
      · simp
      · split
        · simp
        · have hj := joinN_u64 (t.take (b.toNat - 247)) (by rw [List.length_take]; omega)
          simp only [true_or, and_true, List.length_cons]
          exact ⟨hj, by omega⟩
/-- the text of at most so many bytes at the front of s -/
def rdText (s : ByteArray) (most : Int) : ByteArray × Nat × Int :=
  if (rdNum s.data.toList).2.2 ≠ 0 then (⟨#[]⟩, 0, (rdNum s.data.toList).2.2)
  else if max most 0 < ((rdNum s.data.toList).1 : Int) then (⟨#[]⟩, 0, 2)
  else if s.size - (rdNum s.data.toList).2.1 < (rdNum s.data.toList).1 then (⟨#[]⟩, 0, 5)
  else (s.extract (rdNum s.data.toList).2.1 ((rdNum s.data.toList).2.1 + (rdNum s.data.toList).1), (rdNum s.data.toList).2.1 + (rdNum s.data.toList).1, 0)
/-- what rtxt says of a read number -/
theorem rdText_eq (s : ByteArray) (most : Int) {N K : Nat} {E : Int} (h : rdNum s.data.toList = (N, K, E)) :
    rdText s most = if E ≠ 0 then (⟨#[]⟩, 0, E) else if max most 0 < (N : Int) then (⟨#[]⟩, 0, 2) else if s.size - K < N then (⟨#[]⟩, 0, 5) else (s.extract K (K + N), K + N, 0) := by
  unfold rdText; rw [h]
def txtR (x : ByteArray × Nat × Int) : Value := .tuple #[.string x.1, .int .i64 x.2.1, .int .i64 x.2.2]
theorem ret_txt {x : ByteArray × Nat × Int} {a : ByteArray} {b c : Int} {k : Nat} (h : x = (a, k, c)) (hb : b = k) : Ending.returned (.tuple #[.string a, .int .i64 b, .int .i64 c]) = .returned (txtR x) := by
  subst h; subst hb; rfl
end Go.Proofs.Ytggjpallbapcmaa.Bt
