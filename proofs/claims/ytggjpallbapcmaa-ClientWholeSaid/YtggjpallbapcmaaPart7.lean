/-
  WHAT THE ROWS REST ON, part 7: BTape BReals Enc What Enc1.
-/
import Derived.WalkSmall
import Derived.Laws.Externs
import Derived.Lib.QuietBelow
import Derived.Deep.QuietTactic
import Derived.BigQuiet
import Derived.Test.YtggjpallbapcmaaPart6
/-
  A TAPE IN MEMORY, AND THE WALKS OF At, Rest, Err, End.
-/
namespace Go.Proofs.Ytggjpallbapcmaa.Bt
open Go.RowKit
/-- the tape in block b: what is left, and the error -/
def TapeAt (w : World) (b : Nat) (s : ByteArray) (e : Int) : Prop := w.heap[b]? = some (.cells #[.string s, .int .i64 e] 157 (0, 0))
theorem TapeAt.lt {w : World} {b : Nat} {s : ByteArray} {e : Int} (h : TapeAt w b s e) : b < w.heap.size := by
  unfold TapeAt at h
  rcases Nat.lt_or_ge b w.heap.size with h' | h'
  · exact h'
  · rw [Array.getElem?_eq_none h'] at h; simp at h
theorem TapeAt.c0 {w : World} {b : Nat} {s : ByteArray} {e : Int} (h : TapeAt w b s e) : w.cell? ⟨b, 0, none⟩ = some (.string s) := by
  unfold TapeAt at h; simp [World.cell?, h]
theorem TapeAt.c1 {w : World} {b : Nat} {s : ByteArray} {e : Int} (h : TapeAt w b s e) : w.cell? ⟨b, 1, none⟩ = some (.int .i64 e) := by
  unfold TapeAt at h; simp [World.cell?, h]
theorem TapeAt.f {w : World} {b : Nat} {s : ByteArray} {e : Int} (h : TapeAt w b s e) (o : Nat) : w.frozen? ⟨b, o, none⟩ = false := by
  unfold TapeAt at h; simp [World.frozen?, h]
theorem TapeAt.below {w w' : World} {b B : Nat} {s : ByteArray} {e : Int} (h : TapeAt w b s e) (hb : Below B w w') (hB : b < B) : TapeAt w' b s e := by
  unfold TapeAt at *; rw [hb.block b hB]; exact h
theorem TapeAt.next {w w' : World} {b : Nat} {s : ByteArray} {e : Int} (h : TapeAt w b s e) (hb : Below w.heap.size w w') : TapeAt w' b s e := h.below hb h.lt
theorem TapeAt.set0 {w : World} {b : Nat} {s s' : ByteArray} {e : Int} (h : TapeAt w b s e) : TapeAt (w.setCell ⟨b, 0, none⟩ (.string s')) b s' e := by
  unfold TapeAt at *
  simp [World.setCell, Array.getElem?_modify, h]
theorem TapeAt.set1 {w : World} {b : Nat} {s : ByteArray} {e e' : Int} (h : TapeAt w b s e) : TapeAt (w.setCell ⟨b, 1, none⟩ (.int .i64 e')) b s e' := by
  unfold TapeAt at *
  simp [World.setCell, Array.getElem?_modify, h]
theorem grownBy_below {w w' : World} (h : Below w.heap.size w w') (r : Option Nat) : w.grownBy w' r := ⟨h.os, h.tape, h.output, h.size, fun k hk _ => h.block k hk⟩
theorem grownBy_set {w w' : World} (h : Below w.heap.size w w') (b o : Nat) (v : Value) : w.grownBy (w'.setCell ⟨b, o, none⟩ v) (some b) :=
  ⟨h.os, h.tape, h.output, by rw [World.size_setCell]; exact h.size, fun k hk hne => by rw [Below.heap_setCell _ _ _ _ (fun e => hne (by rw [e]))]; exact h.block k hk⟩
theorem err_any {w : World} {b : Nat} {s : ByteArray} {e : Int} (h : TapeAt w b s e) :
    Calls Try.prog 84 #[.pointer (some ⟨b, 0, none⟩)] w fun r w' => r = .returned (.int .i64 e) ∧ w = w' := by
  have h1 := h.c1
  go_enter Try.func84, Try.ntmps84
  go_wp2_with fail
  go_ret
  exact ⟨rfl, rfl⟩
theorem err_nil (w : World) : Calls Try.prog 84 #[.pointer none] w fun r w' => r = .returned (.int .i64 1) ∧ w = w' := by
  go_enter Try.func84, Try.ntmps84
  go_wp2_with fail
  go_ret
  exact ⟨rfl, rfl⟩
theorem end_nil (w : World) : Calls Try.prog 62 #[.pointer none] w fun r w' => r = .returned (.int .i64 1) ∧ w = w' := by
  go_enter Try.func62, Try.ntmps62
  go_wp2_with fail
  refine (err_nil _).mono ?_
  rintro e w1 ⟨rfl, rfl⟩
  go_wp2_with fail
  go_ret
  exact ⟨rfl, rfl⟩
/-- the error behind the end -/
def endE (s : ByteArray) (e : Int) : Int := if e ≠ 0 then e else if s.size = 0 then 0 else 3
theorem end_any {w : World} {b : Nat} {s : ByteArray} {e : Int} (h : TapeAt w b s e) :
    Calls Try.prog 62 #[.pointer (some ⟨b, 0, none⟩)] w fun r w' => r = .returned (.int .i64 (endE s e)) ∧ w = w' := by
  have h0 := h.c0
  by_cases he : e = 0
  · subst he
    by_cases hs : s.size = 0
    · have e0 : s = ⟨#[]⟩ := by
        apply ByteArray.ext
        exact Array.eq_empty_of_size_eq_zero hs
      subst e0
      go_enter Try.func62, Try.ntmps62
      go_wp2_with fail
      refine (err_any h).mono ?_
      rintro r w1 ⟨rfl, rfl⟩
      go_wp2_with fail
      go_ret
      exact ⟨rfl, rfl⟩
    · have hne : s.toList.isEmpty = false := by
        rw [Lib.toList_data, head_drop s (by omega)]; rfl
      have hne2 : (!s.toList.isEmpty) = true := by rw [hne]; rfl
      go_enter Try.func62, Try.ntmps62
      go_wp2_with fail
      refine (err_any h).mono ?_
      rintro r w1 ⟨rfl, rfl⟩
      go_wp2_with fail
      go_ret
      exact ⟨ret_i64 (by unfold endE; rw [if_neg (by simp), if_neg hs]), rfl⟩
  · have hEb : (e != 0) = true := by simp [he]
    go_enter Try.func62, Try.ntmps62
    go_wp2_with fail
    refine (err_any h).mono ?_
    rintro r w1 ⟨rfl, rfl⟩
    go_wp2_with fail
    go_ret
    exact ⟨ret_i64 (by unfold endE; rw [if_pos he]), rfl⟩
theorem at_any (s : ByteArray) (w : World) (hs : s.size ≤ 281474976710656) :
    Calls Try.prog 59 #[.string s] w fun r w' => ∃ b, r = .returned (.pointer (some ⟨b, 0, none⟩)) ∧ w.heap.size ≤ b ∧ TapeAt w' b s 0 ∧ Below w.heap.size w w' := by
  go_enter Try.func59, Try.ntmps59
  go_wp2_with fail
  refine (clone_any _ _ hs).mono ?_
  rintro r w1 ⟨rfl, hb⟩
  go_wp2_with fail
  go_ret
  refine ⟨w1.heap.size, rfl, hb.size, ?_, hb.alloc hb.size _⟩
  unfold TapeAt
  exact heap_alloc_new _ _
end Go.Proofs.Ytggjpallbapcmaa.Bt
/-
  THE WALKS OF REAL NUMBERS: bits.code, bits.Real and the document own; a float is its 64 bits.
-/
namespace Go.Proofs.Ytggjpallbapcmaa.Bt
open Go.RowKit
theorem run_bits (b : Nat) (w : World) : (callFunc 88 #[.float .f64 b]).run Try.prog w = .ok (.value (.int .u64 (b : Int))) w := by
  rw [run_callFunc_extern (P := Try.prog) (e := Extern.MathFloatBits.float64bits) Try.func88 (by kernel_rfl) (by kernel_rfl) (by kernel_rfl) (by kernel_rfl)]
  rfl
/-- is it none? -/
def isNo (f : Nat) : Bool := FloatKind.f64.format.order f f != some Ordering.eq
/-- a real number's bits, one for all that are none -/
def codeN (f : Nat) : Nat := if isNo f then 9221120237041090561 else f
theorem isnan_any (f : Nat) (w : World) :
    Calls Try.prog 108 #[.float .f64 f] w fun r w' => r = .returned (.bool (isNo f)) ∧ w = w' := by
  go_enter Try.func108, Try.ntmps108
  go_wp2
  go_ret
  exact ⟨rfl, rfl⟩
theorem code_any (f : Nat) (w : World) :
    Calls Try.prog 107 #[.float .f64 f] w fun r w' => r = .returned (.int .u64 (codeN f)) ∧ w = w' := by
  have hb := run_bits f
  by_cases h : isNo f
  · go_enter Try.func107, Try.ntmps107
    go_wp2_with fail
    refine (isnan_any f _).mono ?_
    rintro e w1 ⟨rfl, rfl⟩
    go_wp2_with fail
    go_ret
    exact ⟨ret_u64 (by unfold codeN; rw [if_pos h]; rfl), rfl⟩
  · have h' : isNo f = false := by simpa using h
    go_enter Try.func107, Try.ntmps107
    go_wp2_with fail
    refine (isnan_any f _).mono ?_
    rintro e w1 ⟨rfl, rfl⟩
    go_wp2_with fail
    go_ret
    exact ⟨ret_u64 (by unfold codeN; rw [if_neg h]), rfl⟩
theorem rbits_any (f : Nat) (w : World) :
    Calls Try.prog 94 #[.float .f64 f] w fun r w' => r = .returned (.int .u64 (codeN f)) ∧ w = w' := by
  have hb := run_bits f
  by_cases h : isNo f
  · have h' : (FloatKind.f64.format.order f f != some Ordering.eq) = true := h
    go_enter Try.func94, Try.ntmps94
    go_wp2_with fail
    go_ret
    exact ⟨ret_u64 (by unfold codeN; rw [if_pos h]; rfl), rfl⟩
  · have h' : (FloatKind.f64.format.order f f != some Ordering.eq) = false := by simpa [isNo] using h
    go_enter Try.func94, Try.ntmps94
    go_wp2_with fail
    go_ret
    exact ⟨ret_u64 (by unfold codeN; rw [if_neg h]), rfl⟩

theorem codeN_lt {f : Nat} (h : f < 18446744073709551616) : codeN f < 18446744073709551616 := by
  unfold codeN; split
  · decide
  · exact h
/-- a real number's bytes -/
def realS (f : Nat) : ByteArray := strOfNums (be 8 (codeN f))
theorem ret_strs {a b : List Int} {e : Ending} (h : a = b) (he : e = .returned (.string (strOfNums a))) : e = .returned (.string (strOfNums b)) := by rw [he, h]
set_option maxRecDepth 100000 in
set_option maxHeartbeats 1000000 in
theorem real_core (f : Nat) (c c1 c2 c3 c4 c5 c6 c7 c8 : Int) (h0 : 0 ≤ c) (h1 : c < 18446744073709551616) (hcode : Hid (∀ w, Calls Try.prog 107 #[.float .f64 f] w fun r w' => r = .returned (.int .u64 c) ∧ w = w'))
    (hc : laid c = #[.int .u8 0, .int .u8 c1, .int .u8 c2, .int .u8 c3, .int .u8 c4, .int .u8 c5, .int .u8 c6, .int .u8 c7, .int .u8 c8]) (w : World) :
    Calls Try.prog 105 #[.float .f64 f] w fun r w' => r = .returned (.string (strOfNums [c1, c2, c3, c4, c5, c6, c7, c8])) ∧ Below w.heap.size w w' := by
  have Hc := Lib.hid hc
  clear hc
  have hconv := fun W : World => conv_new W [.int .u8 0, .int .u8 c1, .int .u8 c2, .int .u8 c3, .int .u8 c4, .int .u8 c5, .int .u8 c6, .int .u8 c7, .int .u8 c8] [c1, c2, c3, c4, c5, c6, c7, c8] 1 rfl 8 rfl 154 8
  go_enter Try.func105, Try.ntmps105
  go_wp2_with fail
  refine (hcode.out _).mono ?_
  rintro e w1 ⟨rfl, rfl⟩
  go_wp2_with fail
  refine (lay_cells _ _ (by omega) (by omega) Hc.out _).mono ?_
  rintro e w1 ⟨rfl, hb⟩
  go_wp2_with fail
  go_ret
  exact ⟨rfl, hb.alloc hb.size _⟩
theorem real_any (f : Nat) (hf : f < 18446744073709551616) (w : World) :
    Calls Try.prog 105 #[.float .f64 f] w fun r w' => r = .returned (.string (realS f)) ∧ Below w.heap.size w w' := by
  have hlt := codeN_lt hf
  refine (real_core f (codeN f) _ _ _ _ _ _ _ _ (by omega) (by omega) (fun w => code_any f w) rfl w).mono fun r w' ⟨hr, hb⟩ => ⟨ret_strs ?_ hr, hb⟩
  simp only [be, List.nil_append, List.cons_append, List.cons.injEq, and_true]; omega
set_option maxRecDepth 100000 in
set_option maxHeartbeats 1000000 in
theorem rreal_core (f : Nat) (c : Int) (h0 : 0 ≤ c) (h1 : c < 18446744073709551616) (hcode : Hid (∀ w, Calls Try.prog 94 #[.float .f64 f] w fun r w' => r = .returned (.int .u64 c) ∧ w = w')) (w : World) :
    Calls Try.prog 103 #[.float .f64 f] w fun r w' => r = .returned (.string (strOfNums [c / 72057594037927936, c / 281474976710656 % 256, c / 1099511627776 % 256, c / 4294967296 % 256, c / 16777216 % 256, c / 65536 % 256, c / 256 % 256, c % 256])) ∧ Below w.heap.size w w' := by
  have o0 : Bytes w w.heap.size (.slice none 0 0) [] := World.ownsRow_nil _ _ _ _
  go_enter Try.func103, Try.ntmps103
  go_wp2_with fail
  refine wp_loop_rounds 10 ?_
  rw [rounds_succ]
  go_wp2_with fail
  refine (hcode.out _).mono ?_
  rintro e u1 ⟨rfl, rfl⟩
  go_wp2_with (at_builtin; refine append_byte _ rfl _ _ rfl w.heap.size _ _ rfl o0 _ rfl (by simp) (by omega) ?_; intro v1 w1 o1 b1)
  have z1 := b1.size
  rw [rounds_succ]
  go_wp2_with fail
  refine (hcode.out _).mono ?_
  rintro e u2 ⟨rfl, rfl⟩
  go_wp2_with (at_builtin; refine append_byte _ rfl _ _ rfl w.heap.size _ _ rfl o1 _ rfl (by simp) (by omega) ?_; intro v2 w2 o2 b2)
  have z2 := b2.size
  rw [rounds_succ]
  go_wp2_with fail
  refine (hcode.out _).mono ?_
  rintro e u3 ⟨rfl, rfl⟩
  go_wp2_with (at_builtin; refine append_byte _ rfl _ _ rfl w.heap.size _ _ rfl o2 _ rfl (by simp) (by omega) ?_; intro v3 w3 o3 b3)
  have z3 := b3.size
  rw [rounds_succ]
  go_wp2_with fail
  refine (hcode.out _).mono ?_
  rintro e u4 ⟨rfl, rfl⟩
  go_wp2_with (at_builtin; refine append_byte _ rfl _ _ rfl w.heap.size _ _ rfl o3 _ rfl (by simp) (by omega) ?_; intro v4 w4 o4 b4)
  have z4 := b4.size
  rw [rounds_succ]
  go_wp2_with fail
  refine (hcode.out _).mono ?_
  rintro e u5 ⟨rfl, rfl⟩
  go_wp2_with (at_builtin; refine append_byte _ rfl _ _ rfl w.heap.size _ _ rfl o4 _ rfl (by simp) (by omega) ?_; intro v5 w5 o5 b5)
  have z5 := b5.size
  rw [rounds_succ]
  go_wp2_with fail
  refine (hcode.out _).mono ?_
  rintro e u6 ⟨rfl, rfl⟩
  go_wp2_with (at_builtin; refine append_byte _ rfl _ _ rfl w.heap.size _ _ rfl o5 _ rfl (by simp) (by omega) ?_; intro v6 w6 o6 b6)
  have z6 := b6.size
  rw [rounds_succ]
  go_wp2_with fail
  refine (hcode.out _).mono ?_
  rintro e u7 ⟨rfl, rfl⟩
  go_wp2_with (at_builtin; refine append_byte _ rfl _ _ rfl w.heap.size _ _ rfl o6 _ rfl (by simp) (by omega) ?_; intro v7 w7 o7 b7)
  have z7 := b7.size
  rw [rounds_succ]
  go_wp2_with fail
  refine (hcode.out _).mono ?_
  rintro e u8 ⟨rfl, rfl⟩
  go_wp2_with (at_builtin; refine append_byte _ rfl _ _ rfl w.heap.size _ _ rfl o7 _ rfl (by simp) (by omega) ?_; intro v8 w8 o8 b8)
  have z8 := b8.size
  have hcv := conv_own o8
  rw [rounds_succ]
  go_wp2_with fail
  go_ret
  exact ⟨rfl, (((((((b1.trans b2).trans b3).trans b4).trans b5).trans b6).trans b7).trans b8)⟩
theorem rreal_any (f : Nat) (hf : f < 18446744073709551616) (w : World) :
    Calls Try.prog 103 #[.float .f64 f] w fun r w' => r = .returned (.string (realS f)) ∧ Below w.heap.size w w' := by
  have hlt := codeN_lt hf
  refine (rreal_core f (codeN f) (by omega) (by omega) (fun w => rbits_any f w) w).mono fun r w' ⟨hr, hb⟩ => ⟨ret_strs ?_ hr, hb⟩
  simp only [be, List.nil_append, List.cons_append, List.cons.injEq, and_true]; omega
end Go.Proofs.Ytggjpallbapcmaa.Bt
/-
  THE TEXT OF AN EVENT, PLAIN: what a value's kind names, a field's text, an event's.
-/
namespace Go.Proofs.Ytggjpallbapcmaa
open Go.RowKit
def whatS (v : Val) : ByteArray := if v.k = 1 then Bt.intS v.n else if v.k = 2 then Bt.realS v.f else Bt.textS v.s
def fldS (x : Fld) : ByteArray := Bt.textS x.nm ++ (Bt.numS x.v.k ++ whatS x.v)
def fldsS : List Fld → ByteArray
  | [] => ⟨#[]⟩
  | x :: l => fldS x ++ fldsS l
def headS (a b c : Int) (k : ByteArray) (n : Int) : ByteArray := Bt.numS a ++ (Bt.numS b ++ (Bt.numS c ++ (Bt.textS k ++ Bt.numS n)))
def evS (a b c : Int) (k : ByteArray) (L : List Fld) : ByteArray := headS a b c k (L.length : Int) ++ fldsS L
theorem ba_ext {a b : ByteArray} (h : a.data.toList = b.data.toList) : a = b := ByteArray.ext (Array.toList_inj.1 h)
theorem ba_assoc (a b c : ByteArray) : a ++ b ++ c = a ++ (b ++ c) := ba_ext (by simp)
theorem ba_nil (a : ByteArray) : a ++ ⟨#[]⟩ = a := ba_ext (by simp)
theorem nil_ba (a : ByteArray) : (⟨#[]⟩ : ByteArray) ++ a = a := ba_ext (by simp)
theorem ba_size (a b : ByteArray) : (a ++ b).size = a.size + b.size := ByteArray.size_append
theorem fldsS_one : ∀ (l : List Fld) (x : Fld), fldsS (l ++ [x]) = fldsS l ++ fldS x
  | [], x => by show fldS x ++ ⟨#[]⟩ = ⟨#[]⟩ ++ fldS x; rw [ba_nil, nil_ba]
  | y :: l, x => by show fldS y ++ fldsS (l ++ [x]) = fldS y ++ fldsS l ++ fldS x; rw [fldsS_one l x, ba_assoc]
theorem fldsS_take {L : List Fld} {j : Nat} (h : j < L.length) : fldsS (L.take (j + 1)) = fldsS (L.take j) ++ fldS L[j] := by
  rw [List.take_succ_eq_append_getElem h, fldsS_one]
theorem textS_size (s : ByteArray) : (Bt.textS s).size ≤ s.size + 9 := by
  unfold Bt.textS
  rw [ba_size]
  have := Bt.numS_size (s.size : Int)
  omega
theorem intS_size (n : Int) : (Bt.intS n).size ≤ 9 := Bt.numS_size _
theorem strOfNums_size (l : List Int) : (strOfNums l).size = l.length := by rw [Lib.size_eq]; simp [strOfNums]
theorem realS_size (f : Nat) : (Bt.realS f).size = 8 := by unfold Bt.realS; rw [strOfNums_size, Bt.be_len]
theorem whatS_size {v : Val} (h : v.k ≠ 3 ∨ v.s.size ≤ 64) (hk : isK v = true) : (whatS v).size ≤ 73 := by
  unfold whatS
  have i := intS_size v.n
  have r := realS_size v.f
  have t := textS_size v.s
  split
  · omega
  · split
    · omega
    · rename_i h1 h2
      have : v.k = 3 := by
        unfold isK at hk
        simp only [Bool.or_eq_true, decide_eq_true_eq] at hk
        omega
      have := h.resolve_left (by omega)
      omega
theorem mayB_facts {v : Val} (h : mayB v = true) : isK v = true ∧ (v.k ≠ 3 ∨ v.s.size ≤ 64) := by
  unfold mayB at h
  unfold isK
  split at h
  · rename_i h1; exact ⟨by simp [h1], Or.inl (by omega)⟩
  · split at h
    · rename_i h1; exact ⟨by simp [h1], Or.inl (by omega)⟩
    · split at h
      · rename_i h1
        simp only [Bool.and_eq_true, decide_eq_true_eq] at h
        exact ⟨by simp [h1], Or.inr h.1⟩
      · cases h
theorem wordB_size {s : ByteArray} (h : wordB s = true) : s.size ≤ 16 := by
  unfold wordB at h
  simp only [Bool.and_eq_true, decide_eq_true_eq] at h
  exact h.1.1.2
theorem okTo_at {L : List Fld} {n i : Nat} (h : okTo L n = true) (hi : i < n) : okAt L i = true := by
  unfold okTo at h
  exact (List.all_eq_true.1 h) i (List.mem_range.2 hi)
theorem okAt_facts {L : List Fld} {i : Nat} (hi : i < L.length) (h : okAt L i = true) : wordB L[i].nm = true ∧ mayB L[i].v = true := by
  unfold okAt at h
  rw [List.getElem?_eq_getElem hi] at h
  simp only [Bool.and_eq_true] at h
  exact h.2
/-- what an event that may be has -/
theorem chk_facts {a b c : Int} {k : ByteArray} {L : List Fld} (h : chkB a b c k L = true) :
    (0 ≤ a ∧ a ≤ 549755813888) ∧ (0 ≤ b ∧ b ≤ 549755813888) ∧ (0 ≤ c ∧ c ≤ 549755813888) ∧ k.size ≤ 16 ∧ L.length ≤ 8 ∧
    ∀ i (hi : i < L.length), L[i].nm.size ≤ 16 ∧ isK L[i].v = true ∧ (whatS L[i].v).size ≤ 73 ∧ (L[i].v.k ≠ 3 ∨ L[i].v.s.size ≤ 64) := by
  unfold chkB numB fieldsB at h
  simp only [Bool.and_eq_true, decide_eq_true_eq] at h
  obtain ⟨ha, hb, hc, hk, hl, ho⟩ := h
  refine ⟨ha, hb, hc, wordB_size hk, hl, fun i hi => ?_⟩
  obtain ⟨h1, h2⟩ := okAt_facts hi (okTo_at ho hi)
  obtain ⟨m1, m2⟩ := mayB_facts h2
  exact ⟨wordB_size h1, m1, whatS_size m2 m1, m2⟩
theorem fldS_size {x : Fld} (h1 : x.nm.size ≤ 16) (h2 : (whatS x.v).size ≤ 73) : (fldS x).size ≤ 107 := by
  unfold fldS
  rw [ba_size, ba_size]
  have := textS_size x.nm
  have := Bt.numS_size x.v.k
  omega
theorem fldsS_size : ∀ {l : List Fld}, (∀ x ∈ l, (fldS x).size ≤ 107) → (fldsS l).size ≤ 107 * l.length
  | [], _ => by show (0 : Nat) ≤ _; omega
  | x :: l, h => by
    have := fldsS_size (l := l) (fun y hy => h y (by simp [hy]))
    have := h x (by simp)
    show (fldS x ++ fldsS l).size ≤ _
    rw [ba_size, List.length_cons]
    omega
theorem headS_size (a b c : Int) {k : ByteArray} (n : Int) (h : k.size ≤ 16) : (headS a b c k n).size ≤ 61 := by
  unfold headS
  rw [ba_size, ba_size, ba_size, ba_size]
  have := textS_size k
  have := Bt.numS_size a
  have := Bt.numS_size b
  have := Bt.numS_size c
  have := Bt.numS_size n
  omega
end Go.Proofs.Ytggjpallbapcmaa
/-
  WHAT A VALUE's KIND NAMES, WRITTEN: event.what.
-/
namespace Go.Proofs.Ytggjpallbapcmaa
open Go.RowKit
set_option maxHeartbeats 1000000 in
theorem what_any (v : Val) (hw : v.Wf) (hs : v.s.size ≤ 9223372036854775798) (w : World) : Calls Try.prog 99 #[v.val] w fun e w' => e = .returned (.string (whatS v)) ∧ Below w.heap.size w w' := by
  obtain ⟨k, n, f, s⟩ := v
  obtain ⟨_, n0, n1, hf⟩ := hw
  simp only at n0 n1 hf hs
  have I := Lib.hid (fun w => Bt.int_any n n0 n1 w)
  have R := Lib.hid (fun w => Bt.real_any f hf w)
  have T := Lib.hid (fun w => Bt.text_any s hs w)
  unfold Val.val whatS
  simp only
  obtain ⟨w1, hw1, K1, B1⟩ : ∃ w1, w1 = w.alloc (.cells #[.int .i64 k, .int .i64 n, .float .f64 f, .string s] 103) ∧ Blk w1 w.heap.size 103 #[.int .i64 k, .int .i64 n, .float .f64 f, .string s] ∧ Below w.heap.size w w1 := ⟨_, rfl, heap_alloc_new w _, (Below.refl _ w).alloc (Nat.le_refl _) _⟩
  have W1 := Lib.hid hw1
  have B1h := Lib.hid B1
  have e0 : w1.cell? ⟨w.heap.size, 0, none⟩ = some (.int .i64 k) := K1.cell 0
  have e1 : w1.cell? ⟨w.heap.size, 1, none⟩ = some (.int .i64 n) := K1.cell 1
  have e2 : w1.cell? ⟨w.heap.size, 2, none⟩ = some (.float .f64 f) := K1.cell 2
  have e3 : w1.cell? ⟨w.heap.size, 3, none⟩ = some (.string s) := K1.cell 3
  clear hw1 B1 K1 n0 n1 hf hs
  generalize hy : w.heap.size = Y at *
  by_cases h1 : k = 1
  · subst h1
    rw [if_pos rfl]
    go_enter Try.func99, Try.ntmps99
    go_wp2_with fail
    rw [← W1.out]
    go_wp2_with fail
    refine (I.out _).mono ?_
    rintro e w2 ⟨rfl, b2⟩
    have B2h := Lib.hid (B1h.out.trans (b2.mono (by have := B1h.out.size; omega)))
    clear b2
    go_wp2_with fail
    go_ret
    exact ⟨rfl, B2h.out⟩
  rw [if_neg h1]
  by_cases h2 : k = 2
  · subst h2
    rw [if_pos rfl]
    clear h1
    go_enter Try.func99, Try.ntmps99
    go_wp2_with fail
    rw [← W1.out]
    go_wp2_with fail
    refine (R.out _).mono ?_
    rintro e w2 ⟨rfl, b2⟩
    have B2h := Lib.hid (B1h.out.trans (b2.mono (by have := B1h.out.size; omega)))
    clear b2
    go_wp2_with fail
    go_ret
    exact ⟨rfl, B2h.out⟩
  rw [if_neg h2]
  have d1 : (k == 1) = false := by simpa using h1
  have d2 : (k == 2) = false := by simpa using h2
  clear h1 h2
  go_enter Try.func99, Try.ntmps99
  go_wp2_with fail
  rw [← W1.out]
  go_wp2_with fail
  refine (T.out _).mono ?_
  rintro e w2 ⟨rfl, b2⟩
  have B2h := Lib.hid (B1h.out.trans (b2.mono (by have := B1h.out.size; omega)))
  clear b2
  go_wp2_with fail
  go_ret
  exact ⟨rfl, B2h.out⟩
end Go.Proofs.Ytggjpallbapcmaa
/-
  THE TEXT OF AN EVENT, WRITTEN: event.Encode.
-/
namespace Go.Proofs.Ytggjpallbapcmaa
open Go.RowKit
theorem mixedE : Try.prog.follows .mixedOrders = true := by kernel_rfl
theorem isK_le' {v : Val} (h : isK v = true) : v.k = 1 ∨ v.k = 2 ∨ v.k = 3 := by
  unfold isK at h
  simp only [Bool.or_eq_true, decide_eq_true_eq] at h
  omega
theorem ret_enc {s t : ByteArray} {n : Int} (h : s = t) : Ending.returned (.tuple #[.string s, .int .i64 n]) = .returned (.tuple #[.string t, .int .i64 n]) := by rw [h]
set_option maxHeartbeats 2000000 in
set_option maxRecDepth 100000 in
theorem encode_any (a b c : Int) (k : ByteArray) (p : Option Addr) (cp : Nat) (L : List Fld) (w : World) (h100 : L.length ≤ 100) (hk : k.size ≤ 9223372036854775807) (hx : Flds w p L) (hS : ∀ x ∈ L, x.nm.size ≤ 9223372036854775807 ∧ x.v.s.size ≤ 281474976710656) (hW : ∀ x ∈ L, x.v.Wf) :
    Calls Try.prog 86 #[evV a b c k (.slice p L.length cp)] w fun e w' => e = .returned (.tuple #[.string (if chkB a b c k L then evS a b c k L else ⟨#[]⟩), .int .i64 (errI (chkB a b c k L))]) ∧ Below w.heap.size w w' := by
  obtain ⟨w1, hw1, K1, B1⟩ : ∃ w1, w1 = w.alloc (.cells #[.int .i64 a, .int .i64 b, .int .i64 c, .string k, .slice p L.length cp] 31) ∧ Blk w1 w.heap.size 31 #[.int .i64 a, .int .i64 b, .int .i64 c, .string k, .slice p L.length cp] ∧ Below w.heap.size w w1 :=
    ⟨_, rfl, heap_alloc_new w _, (Below.refl _ w).alloc (Nat.le_refl _) _⟩
  have CK := check_any a b c k p cp L w1 h100 hk (hx.below B1) (fun x hx => by have := hS x hx; omega)
  cases hq : chkB a b c k L
  · rw [hq] at CK
    have CKh := Lib.hid CK
    have W1 := Lib.hid hw1
    have B1h := Lib.hid B1
    have e0 : w1.cell? ⟨w.heap.size, 0, none⟩ = some (.int .i64 a) := K1.cell 0
    have e1 : w1.cell? ⟨w.heap.size, 1, none⟩ = some (.int .i64 b) := K1.cell 1
    have e2 : w1.cell? ⟨w.heap.size, 2, none⟩ = some (.int .i64 c) := K1.cell 2
    have e3 : w1.cell? ⟨w.heap.size, 3, none⟩ = some (.string k) := K1.cell 3
    have e4 : w1.cell? ⟨w.heap.size, 4, none⟩ = some (.slice p L.length cp) := K1.cell 4
    clear CK hq hw1 B1 K1 hx hS hW
    generalize L.length = n at *
    generalize hy : w.heap.size = Y at *
    unfold evV at CKh ⊢
    show Calls _ _ _ _ fun e w' => e = .returned (.tuple #[.string ⟨#[]⟩, .int .i64 1]) ∧ _
    have CKh : Hid (Calls Try.prog 41 #[.agg #[.int .i64 a, .int .i64 b, .int .i64 c, .string k, .slice p n cp]] w1 fun e w' => e = .returned (.int .i64 1) ∧ Below w1.heap.size w1 w') := CKh
    go_enter Try.func86, Try.ntmps86
    go_wp2_with fail
    rw [← W1.out]
    go_wp2_with fail
    refine CKh.out.mono ?_
    rintro e w2 ⟨rfl, b2⟩
    have B2h := Lib.hid (B1h.out.trans (b2.mono (by have := B1h.out.size; omega)))
    clear b2
    go_wp2_with fail
    go_ret2
    exact ⟨rfl, B2h.out⟩
  · rw [hq] at CK
    obtain ⟨⟨a0, a1⟩, ⟨b0, b1⟩, ⟨c0, c1⟩, hk16, hl8, hf⟩ := chk_facts hq
    have SH := headS_size a b c (L.length : Int) hk16
    have SF : ∀ j, (fldsS (L.take j)).size ≤ 107 * 8 := fun j => by
      have := fldsS_size (l := L.take j) (fun x hx => by
        obtain ⟨i, hi, rfl⟩ := List.mem_iff_getElem.1 (List.mem_of_mem_take hx)
        exact fldS_size (hf i hi).1 (hf i hi).2.2.1)
      have h2 : (L.take j).length ≤ 8 := by rw [List.length_take]; omega
      omega
    have XX := Lib.hid hx
    have HF : Hid (∀ x ∈ L, x.nm.size ≤ 16 ∧ isK x.v = true ∧ (whatS x.v).size ≤ 73 ∧ (x.v.k ≠ 3 ∨ x.v.s.size ≤ 64)) := Lib.hid (fun x hx => by
      obtain ⟨i, hi, rfl⟩ := List.mem_iff_getElem.1 hx
      exact hf i hi)
    have HW := Lib.hid hW
    have HSz := Lib.hid hS
    have SFh := Lib.hid SF
    have zA := Bt.numS_size a
    have zB := Bt.numS_size b
    have zC := Bt.numS_size c
    have zK := textS_size k
    have NA := Lib.hid (fun w => Bt.num_any a a0 (by omega) w)
    have NB := Lib.hid (fun w => Bt.num_any b b0 (by omega) w)
    have NC := Lib.hid (fun w => Bt.num_any c c0 (by omega) w)
    have NK := Lib.hid (fun w => Bt.text_any k (by omega) w)
    have NL := Lib.hid (fun w => Bt.num_any (L.length : Int) (by omega) (by omega) w)
    have zL := Bt.numS_size (L.length : Int)
    have HE : Hid (∀ A B C K N : ByteArray, A = Bt.numS a → B = Bt.numS b → C = Bt.numS c → K = Bt.textS k → N = Bt.numS (L.length : Int) → A ++ B ++ C ++ K ++ N = headS a b c k (L.length : Int)) := Lib.hid (by
      rintro A B C K N rfl rfl rfl rfl rfl
      unfold headS
      rw [ba_assoc, ba_assoc, ba_assoc])
    have RE : Hid (evS a b c k L = headS a b c k (L.length : Int) ++ fldsS (L.take L.length)) := Lib.hid (by rw [List.take_of_length_le (Nat.le_refl _)]; rfl)
    have W1 := Lib.hid hw1
    have B1h := Lib.hid B1
    have K1h := Lib.hid K1
    have e0 : w1.cell? ⟨w.heap.size, 0, none⟩ = some (.int .i64 a) := K1.cell 0
    have e1 : w1.cell? ⟨w.heap.size, 1, none⟩ = some (.int .i64 b) := K1.cell 1
    have e2 : w1.cell? ⟨w.heap.size, 2, none⟩ = some (.int .i64 c) := K1.cell 2
    have e3 : w1.cell? ⟨w.heap.size, 3, none⟩ = some (.string k) := K1.cell 3
    have e4 : w1.cell? ⟨w.heap.size, 4, none⟩ = some (.slice p L.length cp) := K1.cell 4
    have CKh := Lib.hid CK
    clear CK hq hw1 B1 K1 hx hS hW hf SF
    unfold evV at CKh ⊢
    show Calls _ _ _ _ fun e w' => e = .returned (.tuple #[.string (evS a b c k L), .int .i64 0]) ∧ _
    have CKh : Hid (Calls Try.prog 41 #[.agg #[.int .i64 a, .int .i64 b, .int .i64 c, .string k, .slice p L.length cp]] w1 fun e w' => e = .returned (.int .i64 0) ∧ Below w1.heap.size w1 w') := CKh
    have zk : k.size ≤ 16 := hk16
    obtain ⟨A, hA⟩ : ∃ A, Bt.numS a = A := ⟨_, rfl⟩
    obtain ⟨B, hB⟩ : ∃ A, Bt.numS b = A := ⟨_, rfl⟩
    obtain ⟨C, hC⟩ : ∃ A, Bt.numS c = A := ⟨_, rfl⟩
    obtain ⟨K, hK⟩ : ∃ A, Bt.textS k = A := ⟨_, rfl⟩
    obtain ⟨N, hN⟩ : ∃ A, Bt.numS (L.length : Int) = A := ⟨_, rfl⟩
    have EH := Lib.hid (HE.out A B C K N hA.symm hB.symm hC.symm hK.symm hN.symm)
    rw [hA] at NA zA
    rw [hB] at NB zB
    rw [hC] at NC zC
    rw [hK] at NK zK
    rw [hN] at NL zL
    clear hA hB hC hK hN HE
    generalize hH : headS a b c k (L.length : Int) = H at *
    generalize hE : evS a b c k L = E at *
    clear hH hE
    generalize hn : L.length = n at *
    have HN := Lib.hid hn
    clear hn
    generalize hy : w.heap.size = Y at *
    go_enter Try.func86, Try.ntmps86
    go_wp2_with fail
    rw [← W1.out]
    go_wp2_with fail
    refine CKh.out.mono ?_
    rintro e w2 ⟨rfl, b2⟩
    have K2 := K1h.out.below b2
    have K2h := Lib.hid K2
    have B2h := Lib.hid (B1h.out.trans (b2.mono (by have := B1h.out.size; omega)))
    clear b2 e0 e1 e2 e3 e4
    have d0 : w2.cell? ⟨Y, 0, none⟩ = some (.int .i64 a) := K2.cell 0
    have d1 : w2.cell? ⟨Y, 1, none⟩ = some (.int .i64 b) := K2.cell 1
    have d2 : w2.cell? ⟨Y, 2, none⟩ = some (.int .i64 c) := K2.cell 2
    have d3 : w2.cell? ⟨Y, 3, none⟩ = some (.string k) := K2.cell 3
    have d4 : w2.cell? ⟨Y, 4, none⟩ = some (.slice p n cp) := K2.cell 4
    clear K2
    go_wp2_with fail
    have x0 := fun d os => cell_regrown d0 d os
    have x1 := fun d os => cell_regrown d1 d os
    have x2 := fun d os => cell_regrown d2 d os
    have x3 := fun d os => cell_regrown d3 d os
    have C1 := Lib.hid (fun d os => Calls.regrown_of (d := d) (os := os) (NA.out (Go.Sort.grow (redrawn w2 d) os)))
    have C2 := Lib.hid (fun d os => Calls.regrown_of (d := d) (os := os) (NB.out (Go.Sort.grow (redrawn w2 d) os)))
    have C3 := Lib.hid (fun d os => Calls.regrown_of (d := d) (os := os) (NC.out (Go.Sort.grow (redrawn w2 d) os)))
    have C4 := Lib.hid (fun d os => Calls.regrown_of (d := d) (os := os) (NK.out (Go.Sort.grow (redrawn w2 d) os)))
    have q1 : ¬ (9223372036854775807 < A.size + B.size) := by omega
    have q2 : ¬ (9223372036854775807 < A.size + B.size + C.size) := by omega
    have q3 : ¬ (9223372036854775807 < A.size + B.size + C.size + K.size) := by omega
    have u1 : IntKind.u64.wrap a = a := IntWalk.u64_in _ (by omega)
    have u2 : IntKind.u64.wrap b = b := IntWalk.u64_in _ (by omega)
    have u3 : IntKind.u64.wrap c = c := IntWalk.u64_in _ (by omega)
    refine wp_region_quiet_below mixedE (by kernel_rfl) ?_
    repeat (quiet_step (first | (with_reducible exact C1.out _ _) | (with_reducible exact C2.out _ _) | (with_reducible exact C3.out _ _) | (with_reducible exact C4.out _ _)))
    refine wpQuiet_nil ?_
    intro _ hw'
    obtain ⟨⟨dq, osq⟩, hw''⟩ := hw'
    subst hw''
    have b3 := below_regrown w2 dq osq
    have K3 := K2h.out.below b3
    have B3h := Lib.hid (B2h.out.trans (b3.mono (by have := B2h.out.size; omega)))
    clear x0 x1 x2 x3 d0 d1 d2 d3 d4 C1 C2 C3 C4 b3
    generalize Go.Sort.grow (redrawn w2 dq) osq = w3 at *
    have d4 : w3.cell? ⟨Y, 4, none⟩ = some (.slice p n cp) := K3.cell 4
    have K3h := Lib.hid K3
    clear K3
    clear u1 u2 u3 q1 q2 q3 NA NB NC NK
    have u4 : IntKind.u64.wrap (n : Int) = (n : Int) := IntWalk.u64_in _ (by omega)
    go_wp2_with fail
    refine (NL.out _).mono ?_
    rintro e w4 ⟨rfl, b4⟩
    have K4 := K3h.out.below b4
    have B4h := Lib.hid (B3h.out.trans (b4.mono (by have := B3h.out.size; omega)))
    clear b4 d4 u4
    have d4 : w4.cell? ⟨Y, 4, none⟩ = some (.slice p n cp) := K4.cell 4
    clear K4
    have q4 : ¬ (9223372036854775807 < A.size + B.size + C.size + K.size + N.size) := by omega
    go_wp2_with fail
    rw [EH.out]
    clear q4 zA zB zC zK zL EH
    go_loopw [41, 5] (fun i s wq => ∃ (j : Nat) (S : ByteArray), i = .int .i64 j ∧ s = .string S ∧ j ≤ n ∧ Hid (S = H ++ fldsS (L.take j)) ∧ Below Y w wq) (fun i _ _ => n - (intOf i).toNat)
    case atStart => exact ⟨0, H, rfl, rfl, Nat.zero_le _, Lib.hid (ba_nil H).symm, B4h.out⟩
    case round =>
      obtain ⟨j, S, rfl, rfl, hj, hS, hB⟩ := hrel
      have HB := Lib.hid hB
      clear hB
      by_cases hjn : j < n
      · have hjL : j < L.length := by rw [HN.out]; exact hjn
        obtain ⟨g0, o, rfl, hg0, f0, f1, f2, f3, f4⟩ := XX.out j hjL
        have hgY : g0 < Y := by rw [← hy]; exact hg0
        rw [← HB.out.cell (p := ⟨g0, _, none⟩) hgY] at f0 f1 f2 f3 f4
        have FT := Lib.hid (fldsS_take hjL)
        have FS : S.size ≤ 1000 := by
          rw [hS.out, ba_size]
          have := SFh.out j
          omega
        obtain ⟨m1, m2, m3, m4⟩ := HF.out L[j] (List.getElem_mem hjL)
        have WF := HW.out L[j] (List.getElem_mem hjL)
        have SZ := HSz.out L[j] (List.getElem_mem hjL)
        have ek := isK_le' m2
        have WT := Lib.hid (fun W => what_any L[j].v WF (by omega) W)
        have TX := Lib.hid (fun W => Bt.text_any L[j].nm (by omega) W)
        have NX := Lib.hid (fun W => Bt.num_any L[j].v.k (by omega) (by omega) W)
        have y1 := textS_size L[j].nm
        have y2 := Bt.numS_size L[j].v.k
        have NS : Hid (∀ T M Q : ByteArray, T = Bt.textS L[j].nm → M = Bt.numS L[j].v.k → Q = whatS L[j].v → S ++ (T ++ M ++ Q) = H ++ fldsS (L.take (j + 1))) := Lib.hid (by
          rintro T M Q rfl rfl rfl
          rw [FT.out, hS.out, ba_assoc H, ba_assoc (Bt.textS _)]
          rfl)
        obtain ⟨T, hT⟩ : ∃ A, Bt.textS L[j].nm = A := ⟨_, rfl⟩
        obtain ⟨M, hM⟩ : ∃ A, Bt.numS L[j].v.k = A := ⟨_, rfl⟩
        obtain ⟨Q, hQ⟩ : ∃ A, whatS L[j].v = A := ⟨_, rfl⟩
        have NR := Lib.hid (NS.out T M Q hT.symm hM.symm hQ.symm)
        rw [hT] at TX y1
        rw [hM] at NX y2
        rw [hQ] at WT m3
        clear NS hT hM hQ FT WF SZ
        generalize L[j] = x at *
        obtain ⟨xn, xk, xm, xf, xs⟩ := x
        unfold Val.val at WT
        simp only at f0 f1 f2 f3 f4 m1 m2 m3 m4 ek WT TX NX
        obtain ⟨w5, hw5, N5, B5⟩ : ∃ w5, w5 = wr.alloc (.cells #[.string xn, .int .i64 xk, .int .i64 xm, .float .f64 xf, .string xs] 105) ∧ Blk w5 wr.heap.size 105 #[.string xn, .int .i64 xk, .int .i64 xm, .float .f64 xf, .string xs] ∧ Below wr.heap.size wr w5 :=
          ⟨_, rfl, heap_alloc_new wr _, (Below.refl _ wr).alloc (Nat.le_refl _) _⟩
        have W5 := Lib.hid hw5
        have B5h : Hid (Below Y w w5) := Lib.hid (HB.out.trans (B5.mono (by have := HB.out.size; omega)))
        have n0 : w5.cell? ⟨wr.heap.size, 0, none⟩ = some (.string xn) := N5.cell 0
        have n1 : w5.cell? ⟨wr.heap.size, 1, none⟩ = some (.int .i64 xk) := N5.cell 1
        have n2 : w5.cell? ⟨wr.heap.size, 2, none⟩ = some (.int .i64 xm) := N5.cell 2
        have n3 : w5.cell? ⟨wr.heap.size, 3, none⟩ = some (.float .f64 xf) := N5.cell 3
        have n4 : w5.cell? ⟨wr.heap.size, 4, none⟩ = some (.string xs) := N5.cell 4
        clear hw5 B5 N5
        go_wp2_with fail
        rw [← W5.out]
        have x0 := fun d os => cell_regrown n0 d os
        have x1 := fun d os => cell_regrown n1 d os
        have x2 := fun d os => cell_regrown n2 d os
        have x3 := fun d os => cell_regrown n3 d os
        have x4 := fun d os => cell_regrown n4 d os
        have C1 := Lib.hid (fun d os => Calls.regrown_of (d := d) (os := os) (TX.out (Go.Sort.grow (redrawn w5 d) os)))
        have C2 := Lib.hid (fun d os => Calls.regrown_of (d := d) (os := os) (NX.out (Go.Sort.grow (redrawn w5 d) os)))
        have C3 := Lib.hid (fun d os => Calls.regrown_of (d := d) (os := os) (WT.out (Go.Sort.grow (redrawn w5 d) os)))
        have u1 : IntKind.u64.wrap xk = xk := IntWalk.u64_in _ (by omega)
        have q1 : ¬ (9223372036854775807 < T.size + M.size) := by omega
        have q2 : ¬ (9223372036854775807 < T.size + M.size + Q.size) := by omega
        have q3 : ¬ (9223372036854775807 < S.size + (T.size + M.size + Q.size)) := by omega
        refine wp_region_quiet_below mixedE (by kernel_rfl) ?_
        repeat (quiet_step (first | (with_reducible exact C1.out _ _) | (with_reducible exact C2.out _ _) | (with_reducible exact C3.out _ _)))
        refine wpQuiet_nil ?_
        intro _ hw'
        obtain ⟨⟨dq, osq⟩, hw''⟩ := hw'
        subst hw''
        have b6 := below_regrown w5 dq osq
        have B6h := Lib.hid (B5h.out.trans (b6.mono (by have := B5h.out.size; omega)))
        clear b6 x0 x1 x2 x3 x4 n0 n1 n2 n3 n4 C1 C2 C3 u1 q1 q2 q3
        generalize Go.Sort.grow (redrawn w5 dq) osq = w6 at *
        go_wp2_with fail
        go_roundw
        case rel => exact ⟨j + 1, _, by go_num, rfl, by omega, NR, B6h.out⟩
        case measure => simp [intOf]; omega
      · obtain rfl : j = n := by omega
        go_wp2_with fail
        go_ret2
        exact ⟨ret_enc (hS.out.trans RE.out.symm), HB.out⟩
end Go.Proofs.Ytggjpallbapcmaa
