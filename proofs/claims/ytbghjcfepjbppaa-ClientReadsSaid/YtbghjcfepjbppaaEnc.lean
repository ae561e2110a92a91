/-
  THE TEXT OF AN EVENT, PLAIN: what a value's kind names, a field's text, an event's.
-/
import Derived.Test.YtbghjcfepjbppaaChk3
import Derived.Test.YtbghjcfepjbppaaBReals
namespace Go.Proofs.Ytbghjcfepjbppaa
open Go.RowKit
def whatS (v : Val) : ByteArray := if v.k = 1 then Bt.intS v.n else if v.k = 2 then Bt.realS v.f else Bt.textS v.s
def fldS (x : Fld) : ByteArray := Bt.textS x.nm ++ (Bt.numS x.v.k ++ whatS x.v)
def fldsS : List Fld → ByteArray
  | [] => ⟨#[]⟩
  | x :: l => fldS x ++ fldsS l
def headS (a b c : Int) (k : ByteArray) (n : Int) : ByteArray := Bt.numS a ++ (Bt.numS b ++ (Bt.numS c ++ (Bt.textS k ++ Bt.numS n)))
def evS (a b c : Int) (k : ByteArray) (L : List Fld) : ByteArray := headS a b c k (L.length : Int) ++ fldsS L
theorem ba_ext {a b : ByteArray} (h : a.data.toList = b.data.toList) : a = b := ByteArray.ext (Array.toList_inj.1 h)
theorem ba_assoc (a b c : ByteArray) : a ++ b ++ c = a ++ (b ++ c) := ba_ext (by simp)
theorem ba_nil (a : ByteArray) : a ++ ⟨#[]⟩ = a := ba_ext (by simp)
theorem nil_ba (a : ByteArray) : (⟨#[]⟩ : ByteArray) ++ a = a := ba_ext (by simp)
theorem ba_size (a b : ByteArray) : (a ++ b).size = a.size + b.size := ByteArray.size_append
theorem fldsS_one : ∀ (l : List Fld) (x : Fld), fldsS (l ++ [x]) = fldsS l ++ fldS x
  | [], x => by show fldS x ++ ⟨#[]⟩ = ⟨#[]⟩ ++ fldS x; rw [ba_nil, nil_ba]
  | y :: l, x => by show fldS y ++ fldsS (l ++ [x]) = fldS y ++ fldsS l ++ fldS x; rw [fldsS_one l x, ba_assoc]
theorem fldsS_take {L : List Fld} {j : Nat} (h : j < L.length) : fldsS (L.take (j + 1)) = fldsS (L.take j) ++ fldS L[j] := by
  rw [List.take_succ_eq_append_getElem h, fldsS_one]
theorem textS_size (s : ByteArray) : (Bt.textS s).size ≤ s.size + 9 := by
  unfold Bt.textS
  rw [ba_size]
  have := Bt.numS_size (s.size : Int)
  omega
theorem intS_size (n : Int) : (Bt.intS n).size ≤ 9 := Bt.numS_size _
theorem strOfNums_size (l : List Int) : (strOfNums l).size = l.length := by rw [Lib.size_eq]; simp [strOfNums]
theorem realS_size (f : Nat) : (Bt.realS f).size = 8 := by unfold Bt.realS; rw [strOfNums_size, Bt.be_len]
theorem whatS_size {v : Val} (h : v.k ≠ 3 ∨ v.s.size ≤ 64) (hk : isK v = true) : (whatS v).size ≤ 73 := by
  unfold whatS
  have i := intS_size v.n
  have r := realS_size v.f
  have t := textS_size v.s
  split
  · omega
  · split
    · omega
    · rename_i h1 h2
      have : v.k = 3 := by
        unfold isK at hk
        simp only [Bool.or_eq_true, decide_eq_true_eq] at hk
        omega
      have := h.resolve_left (by omega)
      omega
theorem mayB_facts {v : Val} (h : mayB v = true) : isK v = true ∧ (v.k ≠ 3 ∨ v.s.size ≤ 64) := by
  unfold mayB at h
  unfold isK
  split at h
  · rename_i h1; exact ⟨by simp [h1], Or.inl (by omega)⟩
  · split at h
    · rename_i h1; exact ⟨by simp [h1], Or.inl (by omega)⟩
    · split at h
      · rename_i h1
        simp only [Bool.and_eq_true, decide_eq_true_eq] at h
        exact ⟨by simp [h1], Or.inr h.1⟩
      · cases h
theorem wordB_size {s : ByteArray} (h : wordB s = true) : s.size ≤ 16 := by
  unfold wordB at h
  simp only [Bool.and_eq_true, decide_eq_true_eq] at h
  exact h.1.1.2
theorem okTo_at {L : List Fld} {n i : Nat} (h : okTo L n = true) (hi : i < n) : okAt L i = true := by
  unfold okTo at h
  exact (List.all_eq_true.1 h) i (List.mem_range.2 hi)
theorem okAt_facts {L : List Fld} {i : Nat} (hi : i < L.length) (h : okAt L i = true) : wordB L[i].nm = true ∧ mayB L[i].v = true := by
  unfold okAt at h
  rw [List.getElem?_eq_getElem hi] at h
  simp only [Bool.and_eq_true] at h
  exact h.2
/-- what an event that may be has -/
theorem chk_facts {a b c : Int} {k : ByteArray} {L : List Fld} (h : chkB a b c k L = true) :
    (0 ≤ a ∧ a ≤ 549755813888) ∧ (0 ≤ b ∧ b ≤ 549755813888) ∧ (0 ≤ c ∧ c ≤ 549755813888) ∧ k.size ≤ 16 ∧ L.length ≤ 8 ∧
    ∀ i (hi : i < L.length), L[i].nm.size ≤ 16 ∧ isK L[i].v = true ∧ (whatS L[i].v).size ≤ 73 ∧ (L[i].v.k ≠ 3 ∨ L[i].v.s.size ≤ 64) := by
  unfold chkB numB fieldsB at h
  simp only [Bool.and_eq_true, decide_eq_true_eq] at h
  obtain ⟨ha, hb, hc, hk, hl, ho⟩ := h
  refine ⟨ha, hb, hc, wordB_size hk, hl, fun i hi => ?_⟩
  obtain ⟨h1, h2⟩ := okAt_facts hi (okTo_at ho hi)
  obtain ⟨m1, m2⟩ := mayB_facts h2
  exact ⟨wordB_size h1, m1, whatS_size m2 m1, m2⟩
theorem fldS_size {x : Fld} (h1 : x.nm.size ≤ 16) (h2 : (whatS x.v).size ≤ 73) : (fldS x).size ≤ 107 := by
  unfold fldS
  rw [ba_size, ba_size]
  have := textS_size x.nm
  have := Bt.numS_size x.v.k
  omega
theorem fldsS_size : ∀ {l : List Fld}, (∀ x ∈ l, (fldS x).size ≤ 107) → (fldsS l).size ≤ 107 * l.length
  | [], _ => by show (0 : Nat) ≤ _; omega
  | x :: l, h => by
    have := fldsS_size (l := l) (fun y hy => h y (by simp [hy]))
    have := h x (by simp)
    show (fldS x ++ fldsS l).size ≤ _
    rw [ba_size, List.length_cons]
    omega
theorem headS_size (a b c : Int) {k : ByteArray} (n : Int) (h : k.size ≤ 16) : (headS a b c k n).size ≤ 61 := by
  unfold headS
  rw [ba_size, ba_size, ba_size, ba_size]
  have := textS_size k
  have := Bt.numS_size a
  have := Bt.numS_size b
  have := Bt.numS_size c
  have := Bt.numS_size n
  omega
end Go.Proofs.Ytbghjcfepjbppaa
