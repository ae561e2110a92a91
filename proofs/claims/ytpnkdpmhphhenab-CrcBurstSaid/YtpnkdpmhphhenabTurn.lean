/-
  A PACK SOME OF WHOSE BITS, WITHIN 32, ARE TURNED IS NO PACK. Plain but for the forms of a pack.
-/
import Derived.Test.YtpnkdpmhphhenabPacks
namespace Go.Proofs.Ytpnkdpmhphhenab
open Go.RowKit Go.Sort CrcP
theorem bitsOf_len (l : List UInt8) : (bitsOf l).length = 8 * l.length := by
  induction l with
  | nil => rfl
  | cons b l ih => simp [bitsOf, bits8, ih]; omega
def bitN (b : UInt8) (m : Nat) : Nat := b.toNat / 2 ^ m % 2
theorem bits8_get (b : UInt8) (r : List Nat) (m : Nat) (h : m < 8) : (bits8 b.toNat ++ r).getD m 0 = bitN b m := by
  unfold bitN bits8
  match m, h with
  | 0, _ => simp
  | 1, _ => simp
  | 2, _ => simp
  | 3, _ => simp
  | 4, _ => simp
  | 5, _ => simp
  | 6, _ => simp
  | 7, _ => simp
theorem bitsOf_get (l : List UInt8) (j m : Nat) (hj : j < l.length) (hm : m < 8) : (bitsOf l).getD (8 * j + m) 0 = bitN (l.getD j 0) m := by
  induction l generalizing j with
  | nil => simp at hj
  | cons b l ih =>
    cases j with
    | zero => simpa [bitsOf] using bits8_get b (bitsOf l) m hm
    | succ j =>
      have := ih j (by simpa using hj)
      rw [bitsOf, show 8 * (j + 1) + m = 8 + (8 * j + m) by omega]
      rw [List.getD_eq_getElem?_getD, List.getElem?_append_right (by simp [bits8])]
      simp only [bits8, List.length_cons, List.length_nil, Nat.zero_add, Nat.reduceAdd, Nat.add_sub_cancel_left]
      rw [← List.getD_eq_getElem?_getD, this]
      simp
theorem bits_lt (l : List UInt8) : ∀ b ∈ bitsOf l, b < 2 := by
  induction l with
  | nil => simp [bitsOf]
  | cons b l ih =>
    intro x hx
    rw [bitsOf, List.mem_append] at hx
    rcases hx with hx | hx
    · simp only [bits8, List.mem_cons, List.not_mem_nil, or_false] at hx
      omega
    · exact ih x hx
/-- the bytes have the same bits, but for k from f on -/
def Agree (p z : List UInt8) (f k : Nat) : Prop := z.length = p.length ∧ ∀ j m, m < 8 → (8 * j + m < f ∨ f + k ≤ 8 * j + m) → (z.getD j 0).toNat.testBit m = (p.getD j 0).toNat.testBit m
theorem Agree.start (p : List UInt8) (f : Nat) : Agree p p f 0 := ⟨rfl, fun _ _ _ _ => rfl⟩
theorem Agree.skip {p z : List UInt8} {f k : Nat} (h : Agree p z f k) : Agree p z f (k + 1) := ⟨h.1, fun j m hm hj => h.2 j m hm (by omega)⟩
theorem Agree.turn {p z : List UInt8} {f k : Nat} (h : Agree p z f k) (v : UInt8) (hv : v.toNat = (z.getD ((f + k) / 8) 0).toNat ^^^ 2 ^ ((f + k) % 8)) : Agree p (z.set ((f + k) / 8) v) f (k + 1) := by
  refine ⟨by rw [List.length_set]; exact h.1, fun j m hm hj => ?_⟩
  rw [← h.2 j m hm (by omega)]
  by_cases e : j = (f + k) / 8
  · by_cases hl : j < z.length
    · have e1 : (z.set ((f + k) / 8) v).getD j 0 = v := by rw [← e, List.getD_eq_getElem?_getD, List.getElem?_set_self hl]; rfl
      rw [e1, hv, ← e, Nat.testBit_xor, Nat.testBit_two_pow]
      have : decide ((f + k) % 8 = m) = false := by simp; omega
      rw [this, Bool.xor_false]
    · rw [List.set_eq_of_length_le (by omega)]
  · rw [List.getD_eq_getElem?_getD, List.getElem?_set_ne (by omega), ← List.getD_eq_getElem?_getD]
theorem bitN_eq {a b : UInt8} {m : Nat} (h : a.toNat.testBit m = b.toNat.testBit m) : bitN a m = bitN b m := by
  unfold bitN
  rw [Nat.testBit_eq_decide_div_mod_eq, Nat.testBit_eq_decide_div_mod_eq] at h
  have h1 := Nat.mod_two_eq_zero_or_one (a.toNat / 2 ^ m)
  have h2 := Nat.mod_two_eq_zero_or_one (b.toNat / 2 ^ m)
  rcases h1 with h1 | h1 <;> rcases h2 with h2 | h2 <;> rw [h1, h2] at h <;> simp at h <;> rw [h1, h2]
theorem byte_eq {a b : UInt8} (h : ∀ m, m < 8 → bitN a m = bitN b m) : a = b := by
  apply UInt8.toNat_inj.1
  have ha := a.toNat_lt
  have hb := b.toNat_lt
  have e : ∀ x : UInt8, x.toNat = bitN x 0 + 2 * bitN x 1 + 4 * bitN x 2 + 8 * bitN x 3 + 16 * bitN x 4 + 32 * bitN x 5 + 64 * bitN x 6 + 128 * bitN x 7 := fun x => by
    have hx := x.toNat_lt
    unfold bitN
    simp only [Nat.reducePow]
    omega
  rw [e a, e b, h 0 (by omega), h 1 (by omega), h 2 (by omega), h 3 (by omega), h 4 (by omega), h 5 (by omega), h 6 (by omega), h 7 (by omega)]
theorem bitsOf_inj {p z : List UInt8} (hl : z.length = p.length) (h : ∀ t, t < 8 * p.length → (bitsOf z).getD t 0 = (bitsOf p).getD t 0) : z = p := by
  apply List.ext_getElem hl
  intro j h1 h2
  apply byte_eq
  intro m hm
  have e := h (8 * j + m) (by omega)
  rw [bitsOf_get z j m h1 hm, bitsOf_get p j m h2 hm] at e
  simpa [List.getD_eq_getElem?_getD, List.getElem?_eq_getElem, h1, h2] using e
theorem xor_lt2 {a b : Nat} (ha : a < 2) (hb : b < 2) : a ^^^ b < 2 := Nat.xor_lt_two_pow (n := 1) ha hb
theorem turned_reg {p z : List UInt8} {f : Nat} (ha : Agree p z f 32) (hr : reg z = reg p) : z = p := by
  have hlen : (bitsOf p).length = (bitsOf z).length := by rw [bitsOf_len, bitsOf_len, ha.1]
  have h0 := feed_xor (bitsOf p) (bitsOf z) hlen 4294967295 4294967295
  have h1 : feed 4294967295 (bitsOf p) ^^^ feed 4294967295 (bitsOf z) = 0 := by
    have : feed 4294967295 (bitsOf z) = feed 4294967295 (bitsOf p) := hr
    rw [this, Nat.xor_self]
  rw [h1, Nat.xor_self] at h0
  have hD : ∀ t, (List.zipWith (· ^^^ ·) (bitsOf p) (bitsOf z)).getD t 0 = (bitsOf p).getD t 0 ^^^ (bitsOf z).getD t 0 := by
    intro t
    simp only [List.getD_eq_getElem?_getD, List.getElem?_zipWith]
    by_cases ht : t < (bitsOf p).length
    · rw [List.getElem?_eq_getElem ht, List.getElem?_eq_getElem (by omega)]; rfl
    · rw [List.getElem?_eq_none (by omega), List.getElem?_eq_none (by omega)]; rfl
  have hDl : (List.zipWith (· ^^^ ·) (bitsOf p) (bitsOf z)).length = 8 * p.length := by
    rw [List.length_zipWith, ← hlen, bitsOf_len, Nat.min_self]
  have hDb : ∀ b ∈ List.zipWith (· ^^^ ·) (bitsOf p) (bitsOf z), b < 2 := by
    intro b hb
    obtain ⟨i, hi, rfl⟩ := List.mem_iff_getElem.1 hb
    rw [List.getElem_zipWith]
    exact xor_lt2 (bits_lt p _ (List.getElem_mem _)) (bits_lt z _ (List.getElem_mem _))
  have hout : ∀ t, t < 8 * p.length → (t < f ∨ f + 32 ≤ t) → (List.zipWith (· ^^^ ·) (bitsOf p) (bitsOf z)).getD t 0 = 0 := by
    intro t ht hw
    rw [hD]
    have e1 := bitsOf_get p (t / 8) (t % 8) (by omega) (by omega)
    have e2 := bitsOf_get z (t / 8) (t % 8) (by rw [ha.1]; omega) (by omega)
    rw [show 8 * (t / 8) + t % 8 = t by omega] at e1 e2
    rw [e1, e2, bitN_eq (ha.2 (t / 8) (t % 8) (by omega) (by omega)), Nat.xor_self]
  generalize hg : List.zipWith (· ^^^ ·) (bitsOf p) (bitsOf z) = D at *
  have hz : ∀ t, D.getD t 0 = 0 := by
    have ea : D.take f = List.replicate (D.take f).length 0 := by
      refine List.ext_getElem (by simp) fun i h1 h2 => ?_
      rw [List.getElem_take, List.getElem_replicate]
      have hi : i < D.length := by rw [List.length_take] at h1; omega
      have := hout i (by omega) (by rw [List.length_take] at h1; omega)
      simpa [List.getD_eq_getElem?_getD, List.getElem?_eq_getElem hi] using this
    have ec : (D.drop f).drop 32 = List.replicate ((D.drop f).drop 32).length 0 := by
      refine List.ext_getElem (by simp) fun i h1 h2 => ?_
      rw [List.getElem_drop, List.getElem_drop, List.getElem_replicate]
      have hi : f + (32 + i) < D.length := by simp only [List.length_drop] at h1; omega
      have := hout (f + (32 + i)) (by omega) (by omega)
      simpa [List.getD_eq_getElem?_getD, List.getElem?_eq_getElem hi] using this
    have es : D = D.take f ++ ((D.drop f).take 32 ++ (D.drop f).drop 32) := by rw [List.take_append_drop, List.take_append_drop]
    rw [es, ea, ec] at h0
    have em := burst_seen _ _ ((D.drop f).take 32) (by simp; omega) (fun b hb => hDb b (List.mem_of_mem_drop (List.mem_of_mem_take hb))) h0
    intro t
    rw [es, ea, ec, em]
    simp only [List.replicate_append_replicate, List.getD_eq_getElem?_getD, List.getElem?_replicate]
    split <;> rfl
  refine bitsOf_inj ha.1 fun t _ => ?_
  have e := hD t
  rw [hz t] at e
  have e3 : ((bitsOf p).getD t 0 ^^^ (bitsOf z).getD t 0) ^^^ (bitsOf z).getD t 0 = (bitsOf p).getD t 0 := by rw [Nat.xor_assoc, Nat.xor_self, Nat.xor_zero]
  rw [← e, Nat.zero_xor] at e3
  exact e3
/-- the sum behind the bytes: one register for all packs -/
theorem val_cons8 {a : Nat} (h : a < 256) (l : List Nat) : val (bits8 a ++ l) = a + 256 * val l := by
  simp only [bits8, List.cons_append, List.nil_append, val]; omega
theorem xor_rest (r : Nat) (h : r < 4294967296) : r ^^^ (4294967295 - r) = 4294967295 := by
  apply Nat.eq_of_testBit_eq
  intro i
  rw [Nat.testBit_xor]
  have e : 4294967295 - r = 2 ^ 32 - (r + 1) := by omega
  have e2 : (4294967295 : Nat) = 2 ^ 32 - 1 := rfl
  rw [e, Nat.testBit_two_pow_sub_succ (by omega)]
  rw [e2, Nat.testBit_two_pow_sub_one]
  by_cases hi : i < 32
  · simp [hi]
  · have : r.testBit i = false := Nat.testBit_lt_two_pow (Nat.lt_of_lt_of_le h (show 2 ^ 32 ≤ 2 ^ i from Nat.pow_le_pow_right (by decide) (by omega)))
    simp [hi, this]
theorem foot_list (s : ByteArray) : (footS s).data.toList = [UInt8.ofNat (sumN s.data.toList % 256), UInt8.ofNat (sumN s.data.toList / 256 % 256), UInt8.ofNat (sumN s.data.toList / 65536 % 256), UInt8.ofNat (sumN s.data.toList / 16777216)] := by
  have e : ∀ n : Nat, (foot4 (n : Int)).map (fun m => UInt8.ofNat m.toNat) = [UInt8.ofNat (n % 256), UInt8.ofNat (n / 256 % 256), UInt8.ofNat (n / 65536 % 256), UInt8.ofNat (n / 16777216)] := fun n => by
    simp only [foot4, List.map_cons, List.map_nil]
    refine congr (congrArg _ (congrArg _ ?_)) (congr (congrArg _ (congrArg _ ?_)) (congr (congrArg _ (congrArg _ ?_)) (congr (congrArg _ (congrArg _ ?_)) rfl))) <;> omega
  unfold footS
  rw [strOfNums_data]
  exact e _
theorem reg_foot (s : ByteArray) : reg (s.data.toList ++ (footS s).data.toList) = feed 4294967295 (List.replicate 32 0) := by
  have hb : sumN s.data.toList < 4294967296 := by unfold sumN; omega
  have hx := xor_rest (reg s.data.toList) (reg_lt _)
  rw [foot_list]
  unfold reg
  rw [bitsOf_append, feed_append]
  have hv := feed_val (bitsOf [UInt8.ofNat (sumN s.data.toList % 256), UInt8.ofNat (sumN s.data.toList / 256 % 256), UInt8.ofNat (sumN s.data.toList / 65536 % 256), UInt8.ofNat (sumN s.data.toList / 16777216)]) (feed 4294967295 (bitsOf s.data.toList))
  rw [← hv, bitsOf_len]
  have hval : val (bitsOf [UInt8.ofNat (sumN s.data.toList % 256), UInt8.ofNat (sumN s.data.toList / 256 % 256), UInt8.ofNat (sumN s.data.toList / 65536 % 256), UInt8.ofNat (sumN s.data.toList / 16777216)]) = sumN s.data.toList := by
    simp only [bitsOf]
    rw [ofNat_toNat (by omega), ofNat_toNat (by omega), ofNat_toNat (by omega), ofNat_toNat (by omega)]
    rw [val_cons8 (by omega), val_cons8 (by omega), val_cons8 (by omega), val_cons8 (by omega)]
    simp only [val]
    omega
  rw [hval]
  have : feed 4294967295 (bitsOf s.data.toList) ^^^ sumN s.data.toList = 4294967295 := hx
  rw [this]
  rfl
theorem turned (b : ByteArray) (h : b.size ≤ 1048576) (z : List UInt8) (f : Nat) (hf : 24 ≤ f) (ha : Agree (packS b).data.toList z f 32) (hne : z ≠ (packS b).data.toList) : unp ⟨z.toArray⟩ = (⟨#[]⟩, ⟨#[]⟩, 6) := by
  have hzs : (⟨z.toArray⟩ : ByteArray).size = b.size + 7 := by
    have := ha.1
    rw [← Lib.size_eq, pack_size] at this
    show z.toArray.size = _
    simpa using this
  have h3 : ∀ j, j < 3 → z.getD j 0 = (packS b).data.toList.getD j 0 := fun j hj => byte_eq fun m hm => bitN_eq (ha.2 j m hm (by omega))
  have hl3 : len3 ⟨z.toArray⟩ = len3 (packS b) := by
    unfold len3
    show (z.getD 0 0).toNat * 65536 + (z.getD 1 0).toNat * 256 + (z.getD 2 0).toNat = _
    rw [h3 0 (by omega), h3 1 (by omega), h3 2 (by omega)]
  have hlp : len3 (packS b) = b.size := by
    have e := pack_list b h ⟨#[]⟩
    rw [cat_nil] at e
    exact len3_front b h e
  rw [hlp] at hl3
  unfold unp
  rw [hl3, hzs, if_neg (by omega), if_neg (by omega), if_neg (by omega), if_pos]
  intro he
  apply hne
  have hsp : (⟨z.toArray⟩ : ByteArray) = (⟨z.toArray⟩ : ByteArray).extract 0 (b.size + 3) ++ footS ((⟨z.toArray⟩ : ByteArray).extract 0 (b.size + 3)) := by
    rw [← he, ← extract_split _ (by omega) (by omega)]
    apply bytes_ext
    rw [Lib.extract_data]
    simp only [List.drop_zero, Nat.sub_zero]
    have hz7 : z.length ≤ b.size + 7 := by have := ha.1; rw [← Lib.size_eq, pack_size] at this; omega
    rw [List.take_of_length_le hz7]
  have e1 : reg z = feed 4294967295 (List.replicate 32 0) := by
    rw [← reg_foot ((⟨z.toArray⟩ : ByteArray).extract 0 (b.size + 3)), ← append_data, ← hsp]
  have e2 : reg (packS b).data.toList = feed 4294967295 (List.replicate 32 0) := by
    rw [← reg_foot (frontS b), ← append_data]; rfl
  exact turned_reg ha (by rw [e1, e2])
end Go.Proofs.Ytpnkdpmhphhenab
