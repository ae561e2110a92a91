/-
  WHAT A PACK AT THE FRONT IS, TWO WAYS; THE WALK OF crc.Unpack.
-/
import Derived.Test.YtpnkdpmhphhenabCut
namespace Go.Proofs.Ytpnkdpmhphhenab
open Go.RowKit Go.Sort
theorem bytes_ext {a b : ByteArray} (h : a.data.toList = b.data.toList) : a = b := ByteArray.ext (Array.toList_inj.1 h)
theorem append_data (a b : ByteArray) : (a ++ b).data.toList = a.data.toList ++ b.data.toList := by simp
theorem extract_split (s : ByteArray) {a b c : Nat} (h1 : a ≤ b) (h2 : b ≤ c) : s.extract a c = s.extract a b ++ s.extract b c := by
  apply bytes_ext
  rw [append_data, Lib.extract_data, Lib.extract_data, Lib.extract_data]
  rw [show c - a = (b - a) + (c - b) by omega, List.take_add, List.drop_drop, show a + (b - a) = b by omega]
theorem append_inj_left {a b c d : ByteArray} (h : a ++ b = c ++ d) (hs : a.size = c.size) : b = d := by
  have h1 := congrArg (fun x : ByteArray => x.data.toList) h
  simp only [append_data] at h1
  have := List.append_inj h1 (by rw [← Lib.size_eq, ← Lib.size_eq, hs])
  exact bytes_ext this.2
theorem len3_of (a b c : UInt8) : ([((a.toNat * 65536 + b.toNat * 256 + c.toNat : Nat) : Int) / 65536, ((a.toNat * 65536 + b.toNat * 256 + c.toNat : Nat) : Int) / 256 % 256, ((a.toNat * 65536 + b.toNat * 256 + c.toNat : Nat) : Int) % 256].map fun n => UInt8.ofNat n.toNat) = [a, b, c] := by
  have ha := a.toNat_lt
  have hb := b.toNat_lt
  have hc := c.toNat_lt
  have e1 : (((a.toNat * 65536 + b.toNat * 256 + c.toNat : Nat) : Int) / 65536).toNat = a.toNat := by omega
  have e2 : (((a.toNat * 65536 + b.toNat * 256 + c.toNat : Nat) : Int) / 256 % 256).toNat = b.toNat := by omega
  have e3 : (((a.toNat * 65536 + b.toNat * 256 + c.toNat : Nat) : Int) % 256).toNat = c.toNat := by omega
  simp only [List.map_cons, List.map_nil, e1, e2, e3]
  simp
theorem front_of (s : ByteArray) (h3 : ¬ s.size < 3) (h : len3 s + 3 ≤ s.size) : frontS (s.extract 3 (len3 s + 3)) = s.extract 0 (len3 s + 3) := by
  have hl := len3_eq s (by omega) (by omega) (by omega)
  have hsz : (s.extract 3 (len3 s + 3)).size = len3 s := by simp; omega
  unfold frontS
  rw [hsz, extract_split s (a := 0) (b := 3) (c := len3 s + 3) (by omega) (by omega)]
  congr 1
  apply bytes_ext
  rw [strOfNums_data, Lib.extract_data]
  unfold head3
  rw [hl, len3_of]
  have hlen : s.data.toList.length = s.size := (Lib.size_eq s).symm
  match hm : s.data.toList with
  | [] => rw [hm] at hlen; simp at hlen; omega
  | [a] => rw [hm] at hlen; simp at hlen; omega
  | [a, b] => rw [hm] at hlen; simp at hlen; omega
  | a :: b :: c :: r =>
    have e : ∀ i (h : i < s.size), s[i] = s.data.toList.getD i 0 := fun i h => by
      rw [List.getD_eq_getElem?_getD, List.getElem?_eq_getElem (by simpa using h)]; rfl
    rw [e 0 (by omega), e 1 (by omega), e 2 (by omega), hm]
    rfl
theorem pack_iff (s : ByteArray) (h3 : ¬ s.size < 3) (h : len3 s + 7 ≤ s.size) : packS (s.extract 3 (len3 s + 3)) = s.extract 0 (len3 s + 7) ↔ s.extract (len3 s + 3) (len3 s + 7) = footS (s.extract 0 (len3 s + 3)) := by
  unfold packS
  rw [front_of s h3 (by omega), extract_split s (a := 0) (b := len3 s + 3) (c := len3 s + 7) (by omega) (by omega)]
  constructor
  · intro he
    exact (append_inj_left he rfl).symm
  · intro he
    rw [he]
theorem unp_le (s : ByteArray) : (unp s).1.size ≤ s.size ∧ (unp s).2.1.size ≤ s.size := by
  unfold unp
  split
  · exact ⟨Nat.zero_le _, Nat.zero_le _⟩
  · split
    · exact ⟨Nat.zero_le _, Nat.zero_le _⟩
    · split
      · exact ⟨Nat.zero_le _, Nat.zero_le _⟩
      · split
        · exact ⟨Nat.zero_le _, Nat.zero_le _⟩
        · simp; omega
set_option maxHeartbeats 400000 in
theorem unpack_any (s : ByteArray) (hs : s.size ≤ 281474976710656) (w : World) :
    Calls Try.prog 13 #[.string s] w fun e w' => e = .returned (unpV (unp s)) ∧ Below w.heap.size w w' := by
  have hle := unp_le s
  have H := Lib.hid (cut_any s hs w)
  generalize unp s = x at *
  obtain ⟨a, b, e⟩ := x
  have l1 : a.size ≤ 281474976710656 := Nat.le_trans hle.1 hs
  have l2 : b.size ≤ 281474976710656 := Nat.le_trans hle.2 hs
  clear hle
  go_enter Try.func13, Try.ntmps13
  go_wp2_with fail
  refine H.out.mono ?_
  rintro e w1 ⟨rfl, b1⟩
  unfold unpV
  go_wp2_with fail
  refine (clone_any _ _ l1).mono ?_
  rintro e w2 ⟨rfl, b2⟩
  go_wp2_with fail
  refine (clone_any _ _ l2).mono ?_
  rintro e w3 ⟨rfl, b3⟩
  go_wp2_with fail
  go_ret3
  have s1 := b1.size
  have s2 := b2.size
  exact ⟨rfl, (b1.trans (b2.mono s1)).trans (b3.mono (by omega))⟩
end Go.Proofs.Ytpnkdpmhphhenab
