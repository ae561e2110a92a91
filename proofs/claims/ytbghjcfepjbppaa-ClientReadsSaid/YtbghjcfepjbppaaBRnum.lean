/-
  THE WALK OF THE DOCUMENT'S OWN Num (auspiceref01): the bytes are appended one by one to a slice of its own.
-/
import Derived.Test.YtbghjcfepjbppaaBNum
import Derived.Laws.AppendOwn
import Derived.Laws.OwnMore
import Derived.OwnWalk
import Derived.Lib.SmallJoins
namespace Go.Proofs.Ytbghjcfepjbppaa.Bt
open Go.RowKit

theorem info5 : (Try.prog.info? 5).map (fun i => (i.zero, i.size, i.bytes)) = some (some (.int .u8 0), 1, 1) := by kernel_rfl
/-- a slice of bytes that the call owns, from block B on -/
def Bytes (w : World) (B : Nat) (v : Value) (xs : List Int) : Prop := w.ownsRow B 5 1 v xs.length (xs.map (Value.int .u8))

theorem Bytes.lit (w : World) (B : Nat) (hb : B ≤ w.heap.size) (xs : List Int) (hm : xs.length ≤ maxLen) :
    Bytes (w.alloc (.cells (xs.map (Value.int .u8)).toArray 5)) B (.slice (some ⟨w.heap.size, 0, none⟩) xs.length xs.length) xs := by
  have h := World.ownsRow_lit (base := B) (e := 5) (size := 1) w (xs.map (Value.int .u8)).toArray xs.length hb hm (by simp)
  simpa [Bytes] using h

theorem Bytes.drew {w : World} {B : Nat} {v : Value} {xs : List Int} (h : Bytes w B v xs) : Bytes w.drew B v xs := h

theorem append_byte {ops : Array Oper} {rest : List Oper} {o : Oper} {a : Act} {Q : Exit → Act → World → Prop} (W : World) (hgd : o.guard = none) (s x : Operand)
    (ho : o.op = .call { callee := .builtin .append, args := #[s, x], argTypes := #[153, 153] })
    (B : Nat) (v : Value) (xs : List Int) (hs : a.eval s = v) (hown : Bytes W B v xs) (c : Int)
    (hx : a.eval x = .slice (some ⟨W.heap.size, 0, none⟩) 1 1) (hlen : xs.length + 1 ≤ 140737488355328) (hB : B ≤ W.heap.size)
    (h : ∀ v' w', Bytes w' B v' (xs ++ [c]) → Below B W w' → wpList Try.prog ops Q rest (a.put o.dst v') w') :
    wpList Try.prog ops Q (o :: rest) a (W.alloc (.cells #[.int .u8 c] 5)) := by
  obtain ⟨i, hi, hz0, hz1, hz2⟩ := info_parts info5
  refine wpList_append_own _ hgd s x 153 ho B 5 i (.int .u8 0) 1 1 Try.underlying153 hi hz0 hz1 hz2 rfl (by decide) v xs.length (xs.map (Value.int .u8)) hs (hown.alloc _) ⟨W.heap.size, 0, none⟩ 1 1 [.int .u8 c] hx rfl ?_ ?_ ?_ ?_ ?_ ?_
  · exact cell_one_new _ _ _
  · intro u hu; simp at hu; subst hu; rfl
  · unfold maxLen; omega
  · omega
  · simp; omega
  · intro v' w' ho' hg _
    refine h v' w' ?_ ?_
    · simpa [Bytes] using ho'
    · refine (((Below.refl B W).alloc hB _).grown hg (by simp; omega) ?_)
      intro k hk
      obtain ⟨_, h2⟩ := hown
      rcases h2 with ⟨rfl, _⟩ | ⟨g, cap, cur, rfl, hg', _⟩
      · simp [Value.ownBlock] at hk
      · simp [Value.ownBlock] at hk; omega


theorem conv_own {W : World} {B : Nat} {v : Value} {xs : List Int} (h : Bytes W B v xs) : (convert 153 9 v).run Try.prog W = .ok (.string (strOfNums xs)) W := by
  rcases Joins.ownsRow_forms h with ⟨rfl, hn⟩ | ⟨g, cap, rfl⟩
  · rw [run_convert_bytes_nil (P := Try.prog) W 153 5 Try.underlying153 Try.underlying5 0 0 9 Try.underlying9]
    rw [List.eq_nil_of_length_eq_zero hn]; rfl
  · refine run_convert_bytes_arg (P := Try.prog) W 153 5 Try.underlying153 Try.underlying5 g 0 xs.length cap xs rfl ?_ 9 Try.underlying9
    intro i hi
    have e := World.ownsRow.cellAt h i (by omega)
    rw [Nat.zero_add, e]
    simp [List.getD, List.getElem?_eq_getElem hi]



set_option maxRecDepth 100000 in
set_option maxHeartbeats 1000000 in
theorem rnum_1 (n : Int) (h0 : 248 ≤ n) (h1 : n < 256) (w : World) :
    Calls Try.prog 101 #[.int .u64 n] w fun e w' => e = .returned (.string (strOfNums [248, n])) ∧ Below w.heap.size w w' := by
  have hn : ¬ n ≤ 247 := by omega
  go_enter Try.func101, Try.ntmps101
  go_wp2
  go_rounds 9
  have o0 := Bytes.lit w w.heap.size (Nat.le_refl _) [248] (by decide)
  have b0 := (Below.refl w.heap.size w).alloc (Nat.le_refl _) (.cells #[.int .u8 248] 5)
  simp only [List.map_cons, List.map_nil, List.length_cons, List.length_nil, Nat.zero_add] at o0
  refine wp_loop_rounds 10 ?_
  generalize w.alloc (.cells #[.int .u8 248] 5) = w0 at *
  have z0 := b0.size
  rw [rounds_succ]
  go_wp2_with (at_builtin; refine append_byte _ rfl _ _ rfl w.heap.size _ _ rfl o0 _ rfl (by simp) (by omega) ?_; intro v1 w1 o1 b1)
  have z1 := b1.size
  have hcv := conv_own o1
  rw [rounds_succ]
  go_wp2_with fail
  go_ret
  exact ⟨rfl, (b0.trans b1)⟩


set_option maxRecDepth 100000 in
set_option maxHeartbeats 1000000 in
theorem rnum_2 (n : Int) (h0 : 256 ≤ n) (h1 : n < 65536) (w : World) :
    Calls Try.prog 101 #[.int .u64 n] w fun e w' => e = .returned (.string (strOfNums [249, n / 256, n % 256])) ∧ Below w.heap.size w w' := by
  have hn : ¬ n ≤ 247 := by omega
  go_enter Try.func101, Try.ntmps101
  go_wp2
  go_rounds 9
  have o0 := Bytes.lit w w.heap.size (Nat.le_refl _) [249] (by decide)
  have b0 := (Below.refl w.heap.size w).alloc (Nat.le_refl _) (.cells #[.int .u8 249] 5)
  simp only [List.map_cons, List.map_nil, List.length_cons, List.length_nil, Nat.zero_add] at o0
  refine wp_loop_rounds 10 ?_
  generalize w.alloc (.cells #[.int .u8 249] 5) = w0 at *
  have z0 := b0.size
  rw [rounds_succ]
  go_wp2_with (at_builtin; refine append_byte _ rfl _ _ rfl w.heap.size _ _ rfl o0 _ rfl (by simp) (by omega) ?_; intro v1 w1 o1 b1)
  have z1 := b1.size
  rw [rounds_succ]
  go_wp2_with (at_builtin; refine append_byte _ rfl _ _ rfl w.heap.size _ _ rfl o1 _ rfl (by simp) (by omega) ?_; intro v2 w2 o2 b2)
  have z2 := b2.size
  have hcv := conv_own o2
  rw [rounds_succ]
  go_wp2_with fail
  go_ret
  exact ⟨rfl, ((b0.trans b1).trans b2)⟩


set_option maxRecDepth 100000 in
set_option maxHeartbeats 1000000 in
theorem rnum_3 (n : Int) (h0 : 65536 ≤ n) (h1 : n < 16777216) (w : World) :
    Calls Try.prog 101 #[.int .u64 n] w fun e w' => e = .returned (.string (strOfNums [250, n / 65536, n / 256 % 256, n % 256])) ∧ Below w.heap.size w w' := by
  have hn : ¬ n ≤ 247 := by omega
  go_enter Try.func101, Try.ntmps101
  go_wp2
  go_rounds 9
  have o0 := Bytes.lit w w.heap.size (Nat.le_refl _) [250] (by decide)
  have b0 := (Below.refl w.heap.size w).alloc (Nat.le_refl _) (.cells #[.int .u8 250] 5)
  simp only [List.map_cons, List.map_nil, List.length_cons, List.length_nil, Nat.zero_add] at o0
  refine wp_loop_rounds 10 ?_
  generalize w.alloc (.cells #[.int .u8 250] 5) = w0 at *
  have z0 := b0.size
  rw [rounds_succ]
  go_wp2_with (at_builtin; refine append_byte _ rfl _ _ rfl w.heap.size _ _ rfl o0 _ rfl (by simp) (by omega) ?_; intro v1 w1 o1 b1)
  have z1 := b1.size
  rw [rounds_succ]
  go_wp2_with (at_builtin; refine append_byte _ rfl _ _ rfl w.heap.size _ _ rfl o1 _ rfl (by simp) (by omega) ?_; intro v2 w2 o2 b2)
  have z2 := b2.size
  rw [rounds_succ]
  go_wp2_with (at_builtin; refine append_byte _ rfl _ _ rfl w.heap.size _ _ rfl o2 _ rfl (by simp) (by omega) ?_; intro v3 w3 o3 b3)
  have z3 := b3.size
  have hcv := conv_own o3
  rw [rounds_succ]
  go_wp2_with fail
  go_ret
  exact ⟨rfl, (((b0.trans b1).trans b2).trans b3)⟩


set_option maxRecDepth 100000 in
set_option maxHeartbeats 1000000 in
theorem rnum_4 (n : Int) (h0 : 16777216 ≤ n) (h1 : n < 4294967296) (w : World) :
    Calls Try.prog 101 #[.int .u64 n] w fun e w' => e = .returned (.string (strOfNums [251, n / 16777216, n / 65536 % 256, n / 256 % 256, n % 256])) ∧ Below w.heap.size w w' := by
  have hn : ¬ n ≤ 247 := by omega
  go_enter Try.func101, Try.ntmps101
  go_wp2
  go_rounds 9
  have o0 := Bytes.lit w w.heap.size (Nat.le_refl _) [251] (by decide)
  have b0 := (Below.refl w.heap.size w).alloc (Nat.le_refl _) (.cells #[.int .u8 251] 5)
  simp only [List.map_cons, List.map_nil, List.length_cons, List.length_nil, Nat.zero_add] at o0
  refine wp_loop_rounds 10 ?_
  generalize w.alloc (.cells #[.int .u8 251] 5) = w0 at *
  have z0 := b0.size
  rw [rounds_succ]
  go_wp2_with (at_builtin; refine append_byte _ rfl _ _ rfl w.heap.size _ _ rfl o0 _ rfl (by simp) (by omega) ?_; intro v1 w1 o1 b1)
  have z1 := b1.size
  rw [rounds_succ]
  go_wp2_with (at_builtin; refine append_byte _ rfl _ _ rfl w.heap.size _ _ rfl o1 _ rfl (by simp) (by omega) ?_; intro v2 w2 o2 b2)
  have z2 := b2.size
  rw [rounds_succ]
  go_wp2_with (at_builtin; refine append_byte _ rfl _ _ rfl w.heap.size _ _ rfl o2 _ rfl (by simp) (by omega) ?_; intro v3 w3 o3 b3)
  have z3 := b3.size
  rw [rounds_succ]
  go_wp2_with (at_builtin; refine append_byte _ rfl _ _ rfl w.heap.size _ _ rfl o3 _ rfl (by simp) (by omega) ?_; intro v4 w4 o4 b4)
  have z4 := b4.size
  have hcv := conv_own o4
  rw [rounds_succ]
  go_wp2_with fail
  go_ret
  exact ⟨rfl, ((((b0.trans b1).trans b2).trans b3).trans b4)⟩


set_option maxRecDepth 100000 in
set_option maxHeartbeats 1000000 in
theorem rnum_5 (n : Int) (h0 : 4294967296 ≤ n) (h1 : n < 1099511627776) (w : World) :
    Calls Try.prog 101 #[.int .u64 n] w fun e w' => e = .returned (.string (strOfNums [252, n / 4294967296, n / 16777216 % 256, n / 65536 % 256, n / 256 % 256, n % 256])) ∧ Below w.heap.size w w' := by
  have hn : ¬ n ≤ 247 := by omega
  go_enter Try.func101, Try.ntmps101
  go_wp2
  go_rounds 9
  have o0 := Bytes.lit w w.heap.size (Nat.le_refl _) [252] (by decide)
  have b0 := (Below.refl w.heap.size w).alloc (Nat.le_refl _) (.cells #[.int .u8 252] 5)
  simp only [List.map_cons, List.map_nil, List.length_cons, List.length_nil, Nat.zero_add] at o0
  refine wp_loop_rounds 10 ?_
  generalize w.alloc (.cells #[.int .u8 252] 5) = w0 at *
  have z0 := b0.size
  rw [rounds_succ]
  go_wp2_with (at_builtin; refine append_byte _ rfl _ _ rfl w.heap.size _ _ rfl o0 _ rfl (by simp) (by omega) ?_; intro v1 w1 o1 b1)
  have z1 := b1.size
  rw [rounds_succ]
  go_wp2_with (at_builtin; refine append_byte _ rfl _ _ rfl w.heap.size _ _ rfl o1 _ rfl (by simp) (by omega) ?_; intro v2 w2 o2 b2)
  have z2 := b2.size
  rw [rounds_succ]
  go_wp2_with (at_builtin; refine append_byte _ rfl _ _ rfl w.heap.size _ _ rfl o2 _ rfl (by simp) (by omega) ?_; intro v3 w3 o3 b3)
  have z3 := b3.size
  rw [rounds_succ]
  go_wp2_with (at_builtin; refine append_byte _ rfl _ _ rfl w.heap.size _ _ rfl o3 _ rfl (by simp) (by omega) ?_; intro v4 w4 o4 b4)
  have z4 := b4.size
  rw [rounds_succ]
  go_wp2_with (at_builtin; refine append_byte _ rfl _ _ rfl w.heap.size _ _ rfl o4 _ rfl (by simp) (by omega) ?_; intro v5 w5 o5 b5)
  have z5 := b5.size
  have hcv := conv_own o5
  rw [rounds_succ]
  go_wp2_with fail
  go_ret
  exact ⟨rfl, (((((b0.trans b1).trans b2).trans b3).trans b4).trans b5)⟩


set_option maxRecDepth 100000 in
set_option maxHeartbeats 1000000 in
theorem rnum_6 (n : Int) (h0 : 1099511627776 ≤ n) (h1 : n < 281474976710656) (w : World) :
    Calls Try.prog 101 #[.int .u64 n] w fun e w' => e = .returned (.string (strOfNums [253, n / 1099511627776, n / 4294967296 % 256, n / 16777216 % 256, n / 65536 % 256, n / 256 % 256, n % 256])) ∧ Below w.heap.size w w' := by
  have hn : ¬ n ≤ 247 := by omega
  go_enter Try.func101, Try.ntmps101
  go_wp2
  go_rounds 9
  have o0 := Bytes.lit w w.heap.size (Nat.le_refl _) [253] (by decide)
  have b0 := (Below.refl w.heap.size w).alloc (Nat.le_refl _) (.cells #[.int .u8 253] 5)
  simp only [List.map_cons, List.map_nil, List.length_cons, List.length_nil, Nat.zero_add] at o0
  refine wp_loop_rounds 10 ?_
  generalize w.alloc (.cells #[.int .u8 253] 5) = w0 at *
  have z0 := b0.size
  rw [rounds_succ]
  go_wp2_with (at_builtin; refine append_byte _ rfl _ _ rfl w.heap.size _ _ rfl o0 _ rfl (by simp) (by omega) ?_; intro v1 w1 o1 b1)
  have z1 := b1.size
  rw [rounds_succ]
  go_wp2_with (at_builtin; refine append_byte _ rfl _ _ rfl w.heap.size _ _ rfl o1 _ rfl (by simp) (by omega) ?_; intro v2 w2 o2 b2)
  have z2 := b2.size
  rw [rounds_succ]
  go_wp2_with (at_builtin; refine append_byte _ rfl _ _ rfl w.heap.size _ _ rfl o2 _ rfl (by simp) (by omega) ?_; intro v3 w3 o3 b3)
  have z3 := b3.size
  rw [rounds_succ]
  go_wp2_with (at_builtin; refine append_byte _ rfl _ _ rfl w.heap.size _ _ rfl o3 _ rfl (by simp) (by omega) ?_; intro v4 w4 o4 b4)
  have z4 := b4.size
  rw [rounds_succ]
  go_wp2_with (at_builtin; refine append_byte _ rfl _ _ rfl w.heap.size _ _ rfl o4 _ rfl (by simp) (by omega) ?_; intro v5 w5 o5 b5)
  have z5 := b5.size
  rw [rounds_succ]
  go_wp2_with (at_builtin; refine append_byte _ rfl _ _ rfl w.heap.size _ _ rfl o5 _ rfl (by simp) (by omega) ?_; intro v6 w6 o6 b6)
  have z6 := b6.size
  have hcv := conv_own o6
  rw [rounds_succ]
  go_wp2_with fail
  go_ret
  exact ⟨rfl, ((((((b0.trans b1).trans b2).trans b3).trans b4).trans b5).trans b6)⟩


set_option maxRecDepth 100000 in
set_option maxHeartbeats 1000000 in
theorem rnum_7 (n : Int) (h0 : 281474976710656 ≤ n) (h1 : n < 72057594037927936) (w : World) :
    Calls Try.prog 101 #[.int .u64 n] w fun e w' => e = .returned (.string (strOfNums [254, n / 281474976710656, n / 1099511627776 % 256, n / 4294967296 % 256, n / 16777216 % 256, n / 65536 % 256, n / 256 % 256, n % 256])) ∧ Below w.heap.size w w' := by
  have hn : ¬ n ≤ 247 := by omega
  go_enter Try.func101, Try.ntmps101
  go_wp2
  go_rounds 9
  have o0 := Bytes.lit w w.heap.size (Nat.le_refl _) [254] (by decide)
  have b0 := (Below.refl w.heap.size w).alloc (Nat.le_refl _) (.cells #[.int .u8 254] 5)
  simp only [List.map_cons, List.map_nil, List.length_cons, List.length_nil, Nat.zero_add] at o0
  refine wp_loop_rounds 10 ?_
  generalize w.alloc (.cells #[.int .u8 254] 5) = w0 at *
  have z0 := b0.size
  rw [rounds_succ]
  go_wp2_with (at_builtin; refine append_byte _ rfl _ _ rfl w.heap.size _ _ rfl o0 _ rfl (by simp) (by omega) ?_; intro v1 w1 o1 b1)
  have z1 := b1.size
  rw [rounds_succ]
  go_wp2_with (at_builtin; refine append_byte _ rfl _ _ rfl w.heap.size _ _ rfl o1 _ rfl (by simp) (by omega) ?_; intro v2 w2 o2 b2)
  have z2 := b2.size
  rw [rounds_succ]
  go_wp2_with (at_builtin; refine append_byte _ rfl _ _ rfl w.heap.size _ _ rfl o2 _ rfl (by simp) (by omega) ?_; intro v3 w3 o3 b3)
  have z3 := b3.size
  rw [rounds_succ]
  go_wp2_with (at_builtin; refine append_byte _ rfl _ _ rfl w.heap.size _ _ rfl o3 _ rfl (by simp) (by omega) ?_; intro v4 w4 o4 b4)
  have z4 := b4.size
  rw [rounds_succ]
  go_wp2_with (at_builtin; refine append_byte _ rfl _ _ rfl w.heap.size _ _ rfl o4 _ rfl (by simp) (by omega) ?_; intro v5 w5 o5 b5)
  have z5 := b5.size
  rw [rounds_succ]
  go_wp2_with (at_builtin; refine append_byte _ rfl _ _ rfl w.heap.size _ _ rfl o5 _ rfl (by simp) (by omega) ?_; intro v6 w6 o6 b6)
  have z6 := b6.size
  rw [rounds_succ]
  go_wp2_with (at_builtin; refine append_byte _ rfl _ _ rfl w.heap.size _ _ rfl o6 _ rfl (by simp) (by omega) ?_; intro v7 w7 o7 b7)
  have z7 := b7.size
  have hcv := conv_own o7
  rw [rounds_succ]
  go_wp2_with fail
  go_ret
  exact ⟨rfl, (((((((b0.trans b1).trans b2).trans b3).trans b4).trans b5).trans b6).trans b7)⟩


set_option maxRecDepth 100000 in
set_option maxHeartbeats 1000000 in
theorem rnum_8 (n : Int) (h0 : 72057594037927936 ≤ n) (h1 : n < 18446744073709551616) (w : World) :
    Calls Try.prog 101 #[.int .u64 n] w fun e w' => e = .returned (.string (strOfNums [255, n / 72057594037927936, n / 281474976710656 % 256, n / 1099511627776 % 256, n / 4294967296 % 256, n / 16777216 % 256, n / 65536 % 256, n / 256 % 256, n % 256])) ∧ Below w.heap.size w w' := by
  have hn : ¬ n ≤ 247 := by omega
  go_enter Try.func101, Try.ntmps101
  go_wp2
  go_rounds 9
  have o0 := Bytes.lit w w.heap.size (Nat.le_refl _) [255] (by decide)
  have b0 := (Below.refl w.heap.size w).alloc (Nat.le_refl _) (.cells #[.int .u8 255] 5)
  simp only [List.map_cons, List.map_nil, List.length_cons, List.length_nil, Nat.zero_add] at o0
  refine wp_loop_rounds 10 ?_
  generalize w.alloc (.cells #[.int .u8 255] 5) = w0 at *
  have z0 := b0.size
  rw [rounds_succ]
  go_wp2_with (at_builtin; refine append_byte _ rfl _ _ rfl w.heap.size _ _ rfl o0 _ rfl (by simp) (by omega) ?_; intro v1 w1 o1 b1)
  have z1 := b1.size
  rw [rounds_succ]
  go_wp2_with (at_builtin; refine append_byte _ rfl _ _ rfl w.heap.size _ _ rfl o1 _ rfl (by simp) (by omega) ?_; intro v2 w2 o2 b2)
  have z2 := b2.size
  rw [rounds_succ]
  go_wp2_with (at_builtin; refine append_byte _ rfl _ _ rfl w.heap.size _ _ rfl o2 _ rfl (by simp) (by omega) ?_; intro v3 w3 o3 b3)
  have z3 := b3.size
  rw [rounds_succ]
  go_wp2_with (at_builtin; refine append_byte _ rfl _ _ rfl w.heap.size _ _ rfl o3 _ rfl (by simp) (by omega) ?_; intro v4 w4 o4 b4)
  have z4 := b4.size
  rw [rounds_succ]
  go_wp2_with (at_builtin; refine append_byte _ rfl _ _ rfl w.heap.size _ _ rfl o4 _ rfl (by simp) (by omega) ?_; intro v5 w5 o5 b5)
  have z5 := b5.size
  rw [rounds_succ]
  go_wp2_with (at_builtin; refine append_byte _ rfl _ _ rfl w.heap.size _ _ rfl o5 _ rfl (by simp) (by omega) ?_; intro v6 w6 o6 b6)
  have z6 := b6.size
  rw [rounds_succ]
  go_wp2_with (at_builtin; refine append_byte _ rfl _ _ rfl w.heap.size _ _ rfl o6 _ rfl (by simp) (by omega) ?_; intro v7 w7 o7 b7)
  have z7 := b7.size
  rw [rounds_succ]
  go_wp2_with (at_builtin; refine append_byte _ rfl _ _ rfl w.heap.size _ _ rfl o7 _ rfl (by simp) (by omega) ?_; intro v8 w8 o8 b8)
  have z8 := b8.size
  have hcv := conv_own o8
  rw [rounds_succ]
  go_wp2_with fail
  go_ret
  exact ⟨rfl, ((((((((b0.trans b1).trans b2).trans b3).trans b4).trans b5).trans b6).trans b7).trans b8)⟩


theorem rnum_0 (n : Int) (h0 : 0 ≤ n) (h1 : n ≤ 247) (w : World) :
    Calls Try.prog 101 #[.int .u64 n] w fun e w' => e = .returned (.string (strOfNums [n])) ∧ Below w.heap.size w w' := by
  have hconv := fun W : World => conv_new W [.int .u8 n] [n] 0 rfl 1 rfl 5 1
  go_enter Try.func101, Try.ntmps101
  go_wp2
  go_ret
  exact ⟨rfl, (Below.refl _ _).alloc (Nat.le_refl _) _⟩
theorem ret_nums {a b : List Int} {e : Ending} (h : a = b) (he : e = .returned (.string (strOfNums a))) : e = .returned (.string (strOfNums b)) := by rw [he, h]
theorem rnum_any (n : Int) (h0 : 0 ≤ n) (h1 : n < 18446744073709551616) (w : World) :
    Calls Try.prog 101 #[.int .u64 n] w fun e w' => e = .returned (.string (numS n)) ∧ Below w.heap.size w w' := by
  unfold numS numI wid
  by_cases hn : n ≤ 247
  · rw [if_pos hn]; exact rnum_0 n h0 hn w
  rw [if_neg hn]
  by_cases g1 : n < 256
  · rw [if_pos g1]
    refine (rnum_1 n (by omega) (by omega) w).mono fun e w' ⟨he, hb⟩ => ⟨ret_nums ?_ he, hb⟩
    simp only [be, List.nil_append, List.cons.injEq, and_true]; omega
  by_cases g2 : n < 65536
  · rw [if_neg g1, if_pos g2]
    refine (rnum_2 n (by omega) (by omega) w).mono fun e w' ⟨he, hb⟩ => ⟨ret_nums ?_ he, hb⟩
    simp only [be, List.nil_append, List.cons_append, List.cons.injEq, and_true]; omega
  by_cases g3 : n < 16777216
  · rw [if_neg g1, if_neg g2, if_pos g3]
    refine (rnum_3 n (by omega) (by omega) w).mono fun e w' ⟨he, hb⟩ => ⟨ret_nums ?_ he, hb⟩
    simp only [be, List.nil_append, List.cons_append, List.cons.injEq, and_true]; omega
  by_cases g4 : n < 4294967296
  · rw [if_neg g1, if_neg g2, if_neg g3, if_pos g4]
    refine (rnum_4 n (by omega) (by omega) w).mono fun e w' ⟨he, hb⟩ => ⟨ret_nums ?_ he, hb⟩
    simp only [be, List.nil_append, List.cons_append, List.cons.injEq, and_true]; omega
  by_cases g5 : n < 1099511627776
  · rw [if_neg g1, if_neg g2, if_neg g3, if_neg g4, if_pos g5]
    refine (rnum_5 n (by omega) (by omega) w).mono fun e w' ⟨he, hb⟩ => ⟨ret_nums ?_ he, hb⟩
    simp only [be, List.nil_append, List.cons_append, List.cons.injEq, and_true]; omega
  by_cases g6 : n < 281474976710656
  · rw [if_neg g1, if_neg g2, if_neg g3, if_neg g4, if_neg g5, if_pos g6]
    refine (rnum_6 n (by omega) (by omega) w).mono fun e w' ⟨he, hb⟩ => ⟨ret_nums ?_ he, hb⟩
    simp only [be, List.nil_append, List.cons_append, List.cons.injEq, and_true]; omega
  by_cases g7 : n < 72057594037927936
  · rw [if_neg g1, if_neg g2, if_neg g3, if_neg g4, if_neg g5, if_neg g6, if_pos g7]
    refine (rnum_7 n (by omega) (by omega) w).mono fun e w' ⟨he, hb⟩ => ⟨ret_nums ?_ he, hb⟩
    simp only [be, List.nil_append, List.cons_append, List.cons.injEq, and_true]; omega
  rw [if_neg g1, if_neg g2, if_neg g3, if_neg g4, if_neg g5, if_neg g6, if_neg g7]
  refine (rnum_8 n (by omega) (by omega) w).mono fun e w' ⟨he, hb⟩ => ⟨ret_nums ?_ he, hb⟩
  simp only [be, List.nil_append, List.cons_append, List.cons.injEq, and_true]; omega

end Go.Proofs.Ytbghjcfepjbppaa.Bt
