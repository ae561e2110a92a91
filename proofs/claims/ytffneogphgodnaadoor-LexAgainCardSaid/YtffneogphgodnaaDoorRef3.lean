/-
  THE DOCUMENT's number: what is plain of it.
-/
import Derived.Test.YtffneogphgodnaaDoorRef1
namespace Go.Proofs.YtffneogphgodnaaDoor
open Go.RowKit
theorem rst_head (s : ByteArray) (a : Nat) (h : a < s.size) : (bl (rst s a)).head? = some s[a] := by
  rw [bl_rst, List.head?_drop, List.getElem?_eq_getElem (by rw [bl_len]; exact h), bl_at s a h]
theorem rst_headD (s : ByteArray) (a : Nat) (h : a < s.size) : (bl (rst s a)).headD 0 = s[a] := by
  rw [List.headD_eq_head?_getD, rst_head s a h]; rfl
/-- where the digits begin -/
structure Fr (s : ByteArray) (a f : Nat) (neg : Bool) : Prop where
  n : negB (rst s a) = neg
  u : unsg (rst s a) = rst s f
  z : (rst s a).size - (unsg (rst s a)).size = f - a
theorem fr_neg {s : ByteArray} {a : Nat} (h : a < s.size) (h45 : (s[a].toNat : Int) = 45) : Fr s a (a + 1) true := by
  have e : s[a] = 45 := UInt8.toNat_inj.1 (by have : s[a].toNat = 45 := by omega
                                              exact this)
  have n : negB (rst s a) = true := by unfold negB; rw [rst_head s a h, e]; rfl
  have u : unsg (rst s a) = rst s (a + 1) := by unfold unsg; rw [if_pos n]; exact inner_rst s a
  exact ⟨n, u, by rw [u, rst_size, rst_size]; omega⟩
theorem fr_pos {s : ByteArray} {a : Nat} (h : a < s.size) (h45 : (s[a].toNat : Int) ≠ 45) : Fr s a a false := by
  have n : negB (rst s a) = false := by
    unfold negB; rw [rst_head s a h]
    have : s[a] ≠ 45 := fun e => h45 (by rw [e]; rfl)
    simpa using this
  have u : unsg (rst s a) = rst s a := by unfold unsg; rw [n]; rfl
  exact ⟨n, u, by rw [u]; omega⟩
theorem nm_ok {s : ByteArray} {a f k : Nat} {neg : Bool} (F : Fr s a f neg) (hsp : spanN digB (bl (rst s f)) = k) (h1 : 1 ≤ k) (h18 : k ≤ 18) (hz : k = 1 ∨ ∃ h : f < s.size, (s[f].toNat : Int) ≠ 48) :
    numT (rst s a) = ⟨2, (f - a) + k, sgn neg (decN ((bl (rst s f)).take k)), ⟨#[]⟩⟩ := by
  unfold numT numOk
  rw [F.z, F.n, F.u, hsp, if_pos]
  rw [decide_eq_true h1, decide_eq_true h18]
  rcases hz with rfl | ⟨h, hz⟩
  · rfl
  · rw [rst_headD s f h]
    have : decide (s[f] = 48) = false := decide_eq_false (fun e => hz (by rw [e]; rfl))
    rw [this]; simp
theorem nm_no {s : ByteArray} {a f k : Nat} {neg : Bool} (F : Fr s a f neg) (hsp : spanN digB (bl (rst s f)) = k) (h : k = 0 ∨ 18 < k ∨ (1 < k ∧ ∃ h : f < s.size, (s[f].toNat : Int) = 48)) : numT (rst s a) = t0 := by
  unfold numT numOk
  rw [F.u, hsp, if_neg]
  intro hh
  simp only [Bool.and_eq_true, decide_eq_true_eq, Bool.not_eq_true', Bool.and_eq_false_iff, decide_eq_false_iff_not] at hh
  obtain ⟨h1, h2, h3⟩ := hh
  rcases h with h | h | ⟨h, hf, h48⟩
  · omega
  · omega
  · rw [rst_headD s f hf] at h3
    rcases h3 with h3 | h3
    · exact h3 h
    · exact h3 (UInt8.toNat_inj.1 (by have : s[f].toNat = 48 := by omega
                                      exact this))
theorem decN_next {s : ByteArray} {a k : Nat} (h : a + k < s.size) : decN ((bl (rst s a)).take (k + 1)) = decN ((bl (rst s a)).take k) * 10 + (s[a + k].toNat - 48) := by
  have hl : k < (bl (rst s a)).length := by rw [bl_len, rst_size]; omega
  have e : (bl (rst s a))[k] = s[a + k] := by
    have := rst_get s a k h
    rw [List.getD_eq_getElem?_getD, List.getElem?_eq_getElem hl, Option.getD_some] at this
    exact this
  unfold decN
  rw [List.take_add_one, List.getElem?_eq_getElem hl, e, Option.toList_some, List.foldl_append]
  rfl
theorem decN_bound {s : ByteArray} {a k : Nat} (hk : a + k ≤ s.size) (hall : ∀ j, j < k → ∀ h : a + j < s.size, digB (s[a + j].toNat : Int) = true) : decN ((bl (rst s a)).take k) < 10 ^ k := by
  have := decN_lt ((bl (rst s a)).take k) (fun b hb => by
    obtain ⟨j, hj, rfl⟩ := List.getElem_of_mem hb
    rw [List.length_take] at hj
    have hj2 : j < k := by omega
    rw [List.getElem_take]
    have e : (bl (rst s a))[j]'(by omega) = s[a + j]'(by omega) := by
      have := rst_get s a j (by omega)
      rw [List.getD_eq_getElem?_getD, List.getElem?_eq_getElem (by omega), Option.getD_some] at this
      exact this
    rw [e]; exact hall j hj2 (by omega)) 0 0 (by decide)
  rw [List.length_take, bl_len, rst_size, Nat.zero_add, Nat.min_eq_left (by omega)] at this
  exact this
/-- the number up to a place: its first 18 digits -/
def num18 (s : ByteArray) (f k : Nat) : Nat := decN ((bl (rst s f)).take (min k 18))
theorem num18_0 (s : ByteArray) (f : Nat) : num18 s f 0 = 0 := rfl
theorem num18_lo {s : ByteArray} {f k : Nat} (h : f + k < s.size) (hk : k < 18) : num18 s f (k + 1) = num18 s f k * 10 + (s[f + k].toNat - 48) := by
  unfold num18
  rw [Nat.min_eq_left (by omega), Nat.min_eq_left (by omega)]
  exact decN_next h
theorem num18_hi (s : ByteArray) {f k : Nat} (hk : 18 ≤ k) : num18 s f (k + 1) = num18 s f k := by
  unfold num18
  rw [Nat.min_eq_right (by omega), Nat.min_eq_right (by omega)]
theorem num18_lt {s : ByteArray} {f k : Nat} (hk : f + k ≤ s.size) (hall : ∀ j, j < k → ∀ h : f + j < s.size, digB (s[f + j].toNat : Int) = true) : num18 s f k < 10 ^ (min k 18) := by
  unfold num18
  exact decN_bound (by omega) (fun j hj h => hall j (by omega) h)
theorem num18_17 {s : ByteArray} {f k : Nat} (hk : f + k ≤ s.size) (h18 : k < 18) (hall : ∀ j, j < k → ∀ h : f + j < s.size, digB (s[f + j].toNat : Int) = true) : num18 s f k < 100000000000000000 := by
  have h := num18_lt hk hall
  have h1 : (10 : Nat) ^ (min k 18) ≤ 10 ^ 17 := Nat.pow_le_pow_right (by decide) (by omega)
  exact Nat.lt_of_lt_of_le h h1
theorem num18_18 {s : ByteArray} {f k : Nat} (hk : f + k ≤ s.size) (hall : ∀ j, j < k → ∀ h : f + j < s.size, digB (s[f + j].toNat : Int) = true) : num18 s f k < 1000000000000000000 := by
  have h := num18_lt hk hall
  have h1 : (10 : Nat) ^ (min k 18) ≤ 10 ^ 18 := Nat.pow_le_pow_right (by decide) (by omega)
  exact Nat.lt_of_lt_of_le h h1
theorem num18_ok {s : ByteArray} {f k : Nat} (h : k ≤ 18) : decN ((bl (rst s f)).take k) = num18 s f k := by
  unfold num18; rw [Nat.min_eq_left h]
end Go.Proofs.YtffneogphgodnaaDoor
