/-
  THE WALKS OF foot, Pack AND THE DOCUMENT OWN Pack.
-/
import Derived.Test.YtpnkdpmhphhenabRsum
import Derived.Test.YtpnkdpmhphhenabShelf
namespace Go.Proofs.Ytpnkdpmhphhenab
open Go.RowKit
theorem conv_new (W : World) (cs : List Value) (xs : List Int) (off : Nat) (h : cs.drop off = xs.map (Value.int .u8)) (len : Nat) (hl : xs.length = len) (t cap : Nat) :
    (convert 44 9 (.slice (some ⟨W.heap.size, off, none⟩) len cap)).run Try.prog (W.alloc (.cells cs.toArray t)) = .ok (.string (strOfNums xs)) (W.alloc (.cells cs.toArray t)) := by
  refine run_convert_bytes_arg (P := Try.prog) _ 44 5 Try.underlying44 Try.underlying5 W.heap.size off len cap xs hl ?_ 9 Try.underlying9
  intro i hi
  rw [World.cell?_alloc_new]
  have e := congrArg (fun l => l[i]?) h
  simp only [List.getElem?_drop, List.getElem?_map] at e
  rw [List.getElem?_toArray, e, List.getElem?_eq_getElem (by omega)]
  simp [List.getD, List.getElem?_eq_getElem (show i < xs.length by omega)]
theorem clone_any (s : ByteArray) (w : World) (hs : s.size ≤ 281474976710656) :
    Calls Try.prog 21 #[.string s] w fun e w' => e = .returned (.string s) ∧ Below w.heap.size w w' := by
  go_enter Try.func21, Try.ntmps21
  go_wp2_with fail
  refine (Try.stringslite_Clone s _ hs).mono ?_
  rintro e w1 ⟨rfl, hb⟩
  go_wp2_with fail
  go_ret
  exact ⟨rfl, hb⟩
/-- three bytes, the highest first -/
def head3 (n : Int) : List Int := [n / 65536, n / 256 % 256, n % 256]
/-- four bytes, the lowest first -/
def foot4 (n : Int) : List Int := [n % 256, n / 256 % 256, n / 65536 % 256, n / 16777216]
def sumI (s : ByteArray) : Int := (CrcP.sumN s.data.toList : Nat)
def footS (s : ByteArray) : ByteArray := strOfNums (foot4 (sumI s))
/-- how many bytes the body has, and the body -/
def frontS (b : ByteArray) : ByteArray := strOfNums (head3 b.size) ++ b
/-- a body's pack -/
def packS (b : ByteArray) : ByteArray := frontS b ++ footS (frontS b)
theorem sumI_bd (s : ByteArray) : 0 ≤ sumI s ∧ sumI s < 4294967296 := by
  unfold sumI CrcP.sumN; omega
theorem foot_size (s : ByteArray) : (footS s).size = 4 := by unfold footS; rw [strOfNums_size]; rfl
theorem front_size (b : ByteArray) : (frontS b).size = b.size + 3 := by
  unfold frontS
  rw [ByteArray.size_append, strOfNums_size]
  simp [head3]; omega
theorem pack_size (b : ByteArray) : (packS b).size = b.size + 7 := by
  unfold packS
  rw [ByteArray.size_append, foot_size, front_size]
set_option maxHeartbeats 400000 in
theorem foot_any (s : ByteArray) (hs : s.size ≤ 9223372036854775807) (w : World) :
    Calls Try.prog 19 #[.string s] w fun e w' => e = .returned (.string (footS s)) ∧ Below w.heap.size w w' := by
  have h := sumI_bd s
  have H : Hid (∀ w, Calls Try.prog 11 #[.string s] w fun e w' => e = .returned (.int .u32 (sumI s)) ∧ w = w') := fun w => sum_any s hs w
  unfold footS
  generalize sumI s = n at *
  have hconv := fun W : World => conv_new W [.int .u8 (n % 256), .int .u8 (n / 256 % 256), .int .u8 (n / 65536 % 256), .int .u8 (n / 16777216)] (foot4 n) 0 rfl 4 rfl 5 4
  go_enter Try.func19, Try.ntmps19
  go_wp2_with fail
  refine (H.out _).mono ?_
  rintro e w1 ⟨rfl, rfl⟩
  go_wp2_with fail
  go_ret
  exact ⟨rfl, (Below.refl _ _).alloc (Nat.le_refl _) _⟩
set_option maxHeartbeats 400000 in
theorem pack_any (b : ByteArray) (hb : b.size ≤ 1048576) (w : World) :
    Calls Try.prog 9 #[.string b] w fun e w' => e = .returned (.tuple #[.string (packS b), .int .i64 0]) ∧ Below w.heap.size w w' := by
  have hconv := fun W : World => conv_new W [.int .u8 ((b.size : Int) / 65536), .int .u8 ((b.size : Int) / 256 % 256), .int .u8 ((b.size : Int) % 256)] (head3 b.size) 0 rfl 3 rfl 5 3
  have hz : (strOfNums (head3 b.size)).size = 3 := by rw [strOfNums_size]; rfl
  have hf : (strOfNums (head3 b.size) ++ b).size = b.size + 3 := front_size b
  have hfo := foot_size (strOfNums (head3 b.size) ++ b)
  have hz1 : (strOfNums (head3 b.size)).size + b.size ≤ 9223372036854775807 := by omega
  have hz2 : (strOfNums (head3 b.size) ++ b).size + (footS (strOfNums (head3 b.size) ++ b)).size ≤ 9223372036854775807 := by omega
  clear hz hfo
  have Hf := Lib.hid hf
  clear hf
  go_enter Try.func9, Try.ntmps9
  go_wp2_with fail
  refine (foot_any _ (by have := Hf.out; omega) _).mono ?_
  rintro e w1 ⟨rfl, hb1⟩
  go_wp2_with fail
  go_ret2
  exact ⟨rfl, ((Below.refl _ _).alloc (Nat.le_refl _) _).trans (hb1.mono (by simp))⟩
theorem pack_long (b : ByteArray) (hb : 1048576 < b.size) (hb2 : b.size ≤ 9223372036854775807) (w : World) :
    Calls Try.prog 9 #[.string b] w fun e w' => e = .returned (.tuple #[.string ⟨#[]⟩, .int .i64 2]) ∧ w = w' := by
  go_enter Try.func9, Try.ntmps9
  go_wp2_with fail
  go_ret2
  exact ⟨rfl, rfl⟩
theorem rpack_long (b : ByteArray) (hb : 1048576 < b.size) (hb2 : b.size ≤ 9223372036854775807) (w : World) :
    Calls Try.prog 10 #[.string b] w fun e w' => e = .returned (.tuple #[.string ⟨#[]⟩, .int .i64 2]) ∧ w = w' := by
  go_enter Try.func10, Try.ntmps10
  go_wp2_with fail
  go_ret2
  exact ⟨rfl, rfl⟩
set_option maxHeartbeats 400000 in
theorem rpack_any (b : ByteArray) (hb : b.size ≤ 1048576) (w : World) :
    Calls Try.prog 10 #[.string b] w fun e w' => e = .returned (.tuple #[.string (packS b), .int .i64 0]) ∧ Below w.heap.size w w' := by
  have hconv := fun W : World => conv_new W [.int .u8 ((b.size : Int) / 65536), .int .u8 ((b.size : Int) / 256 % 256), .int .u8 ((b.size : Int) % 256)] (head3 b.size) 0 rfl 3 rfl 5 3
  have hz : (strOfNums (head3 b.size)).size = 3 := by rw [strOfNums_size]; rfl
  have hf : (strOfNums (head3 b.size) ++ b).size = b.size + 3 := front_size b
  have hfo := foot_size (strOfNums (head3 b.size) ++ b)
  have hz1 : (strOfNums (head3 b.size)).size + b.size ≤ 9223372036854775807 := by omega
  have hz2 : (strOfNums (head3 b.size) ++ b).size + (strOfNums (foot4 (sumI (strOfNums (head3 b.size) ++ b)))).size ≤ 9223372036854775807 := by unfold footS at hfo; omega
  clear hz hfo
  have Hf := Lib.hid hf
  clear hf
  have hn := sumI_bd (strOfNums (head3 b.size) ++ b)
  go_enter Try.func10, Try.ntmps10
  go_wp2_with fail
  refine (rsum_any _ (by have := Hf.out; omega) _).mono ?_
  rintro e w1 ⟨rfl, rfl⟩
  have hpk : Hid (packS b = (strOfNums (head3 b.size) ++ b) ++ strOfNums (foot4 (sumI (strOfNums (head3 b.size) ++ b)))) := rfl
  have b0 := (Below.refl w.heap.size w).alloc (Nat.le_refl _) (.cells #[.int .u8 ((b.size : Int) / 65536), .int .u8 ((b.size : Int) / 256 % 256), .int .u8 ((b.size : Int) % 256)] 5)
  generalize w.alloc (.cells #[.int .u8 ((b.size : Int) / 65536), .int .u8 ((b.size : Int) / 256 % 256), .int .u8 ((b.size : Int) % 256)] 5) = w0 at *
  rw [show ((CrcP.sumN (strOfNums (head3 b.size) ++ b).data.toList : Nat) : Int) = sumI (strOfNums (head3 b.size) ++ b) from rfl]
  generalize hN : sumI (strOfNums (head3 b.size) ++ b) = n at *
  clear hN
  have hconv2 := fun W : World => conv_new W [.int .u8 (n % 256), .int .u8 (n / 256 % 256), .int .u8 (n / 65536 % 256), .int .u8 (n / 16777216)] (foot4 n) 0 rfl 4 rfl 5 4
  go_wp2_with fail
  go_ret2
  exact ⟨by rw [hpk.out]; rfl, b0.alloc b0.size _⟩
end Go.Proofs.Ytpnkdpmhphhenab
