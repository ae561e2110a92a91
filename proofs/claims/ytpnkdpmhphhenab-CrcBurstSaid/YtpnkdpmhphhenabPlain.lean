/-
  CRC-32C AS A REGISTER OF BITS: a bit goes in at a time; what differs by a burst of at most 32 bits leaves another register. Plain: it imports nothing of the program.
-/
namespace Go.Proofs.Ytpnkdpmhphhenab.CrcP


def P : Nat := 0x82f63b78
/-- one bit goes in -/
def step (r b : Nat) : Nat := r / 2 ^^^ (if (r + b) % 2 = 1 then P else 0)
def feed (r : Nat) (l : List Nat) : Nat := l.foldl step r
def val : List Nat → Nat
  | [] => 0
  | b :: l => b % 2 + 2 * val l

theorem feed_nil (r) : feed r [] = r := rfl
theorem feed_cons (r b l) : feed r (b :: l) = feed (step r b) l := rfl
theorem feed_append (r l m) : feed r (l ++ m) = feed (feed r l) m := List.foldl_append

theorem P_lt : P < 2 ^ 32 := by decide
theorem step_lt {r : Nat} (b : Nat) (h : r < 2 ^ 32) : step r b < 2 ^ 32 := by
  unfold step
  apply Nat.xor_lt_two_pow
  · omega
  · split
    · exact P_lt
    · decide
theorem feed_lt {r : Nat} (l : List Nat) (h : r < 2 ^ 32) : feed r l < 2 ^ 32 := by
  induction l generalizing r with
  | nil => exact h
  | cons b l ih => exact ih (step_lt b h)

theorem xor_div2 (a b : Nat) : (a ^^^ b) / 2 = a / 2 ^^^ b / 2 := by
  have := Nat.shiftRight_xor_distrib (a := a) (b := b) (i := 1)
  simpa [Nat.shiftRight_eq_div_pow] using this
theorem xor_mod2 (a b : Nat) : (a ^^^ b) % 2 = (a + b) % 2 := by
  have h := Nat.xor_mod_two_pow (a := a) (b := b) (n := 1)
  simp only [Nat.pow_one] at h
  rw [h]
  have ha := Nat.mod_two_eq_zero_or_one a
  have hb := Nat.mod_two_eq_zero_or_one b
  rcases ha with ha | ha <;> rcases hb with hb | hb <;> rw [ha, hb] <;> simp <;> omega

theorem xor4 (a b c d : Nat) : (a ^^^ b) ^^^ (c ^^^ d) = (a ^^^ c) ^^^ (b ^^^ d) := by
  rw [Nat.xor_assoc, Nat.xor_assoc, ← Nat.xor_assoc b, Nat.xor_comm b c, Nat.xor_assoc]

theorem step_xor (r s b c : Nat) : step (r ^^^ s) (b ^^^ c) = step r b ^^^ step s c := by
  unfold step
  rw [xor_div2, xor4]
  congr 1
  have h1 := xor_mod2 r s
  have h2 := xor_mod2 b c
  by_cases h3 : (r + b) % 2 = 1 <;> by_cases h4 : (s + c) % 2 = 1
  · rw [if_pos h3, if_pos h4, if_neg (by omega), Nat.xor_self]
  · rw [if_pos h3, if_neg h4, if_pos (by omega), Nat.xor_zero]
  · rw [if_neg h3, if_pos h4, if_pos (by omega), Nat.zero_xor]
  · rw [if_neg h3, if_neg h4, if_neg (by omega), Nat.xor_zero]

theorem feed_xor (l m : List Nat) (h : l.length = m.length) (r s : Nat) : feed (r ^^^ s) (List.zipWith (· ^^^ ·) l m) = feed r l ^^^ feed s m := by
  induction l generalizing m r s with
  | nil => cases m with
    | nil => rfl
    | cons _ _ => simp at h
  | cons b l ih => cases m with
    | nil => simp at h
    | cons c m =>
      rw [List.zipWith_cons_cons, feed_cons, feed_cons, feed_cons, step_xor]
      exact ih m (by simpa using h) _ _

theorem step_zero : step 0 0 = 0 := by decide
theorem feed_zeros (n : Nat) : feed 0 (List.replicate n 0) = 0 := by
  induction n with
  | zero => rfl
  | succ n ih => rw [List.replicate_succ, feed_cons, step_zero, ih]

theorem step_inj {d : Nat} (hd : d < 2 ^ 32) (h : step d 0 = 0) : d = 0 := by
  unfold step at h
  have h' : d / 2 = (if (d + 0) % 2 = 1 then P else 0) := by
    have := congrArg (· ^^^ (if (d + 0) % 2 = 1 then P else 0)) h
    simpa [Nat.xor_assoc] using this
  split at h'
  · unfold P at h'; omega
  · omega
theorem feed_inj (n : Nat) {d : Nat} (hd : d < 2 ^ 32) (h : feed d (List.replicate n 0) = 0) : d = 0 := by
  induction n generalizing d with
  | zero => exact h
  | succ n ih => exact step_inj hd (ih (step_lt 0 hd) h)

/-- bits fed one by one, or laid over the register first -/
theorem step_val (r v : Nat) : step (r ^^^ v) 0 = step r v ^^^ v / 2 := by
  unfold step
  rw [xor_div2]
  have h1 := xor_mod2 r v
  have e : ((r ^^^ v) + 0) % 2 = (r + v) % 2 := by omega
  rw [e, Nat.xor_assoc, Nat.xor_comm (v / 2), Nat.xor_assoc]
theorem step_mod (r b : Nat) : step r b = step r (b % 2) := by
  unfold step
  have : (r + b) % 2 = (r + b % 2) % 2 := by omega
  rw [this]
theorem feed_val (l : List Nat) (r : Nat) : feed (r ^^^ val l) (List.replicate l.length 0) = feed r l := by
  induction l generalizing r with
  | nil => simp [val, feed]
  | cons b l ih =>
    rw [List.length_cons, List.replicate_succ, feed_cons, feed_cons, step_val]
    have e1 : val (b :: l) / 2 = val l := by simp only [val]; omega
    have e2 : step r (val (b :: l)) = step r b := by
      rw [step_mod r b, step_mod r (val _)]; simp only [val]; congr 1; omega
    rw [e1, e2]
    exact ih _

theorem val_lt (l : List Nat) : val l < 2 ^ l.length := by
  induction l with
  | nil => simp [val]
  | cons b l ih => simp only [val, List.length_cons, Nat.pow_succ]; omega
theorem val_zero (l : List Nat) (hb : ∀ b ∈ l, b < 2) (h : val l = 0) : l = List.replicate l.length 0 := by
  induction l with
  | nil => rfl
  | cons b l ih =>
    simp only [val] at h
    have := hb b (by simp)
    rw [List.length_cons, List.replicate_succ, ← ih (fun c hc => hb c (by simp [hc])) (by omega)]
    congr 1; omega

/-- A BURST OF AT MOST 32 BITS IS SEEN. -/
theorem burst_seen (a c : Nat) (l : List Nat) (hl : l.length ≤ 32) (hb : ∀ b ∈ l, b < 2)
    (h : feed 0 (List.replicate a 0 ++ (l ++ List.replicate c 0)) = 0) : l = List.replicate l.length 0 := by
  rw [feed_append, feed_zeros, feed_append] at h
  have h1 := feed_inj c (feed_lt l (by decide)) h
  have h2 := feed_val l 0
  rw [Nat.zero_xor, h1] at h2
  have hv : val l < 2 ^ 32 := Nat.lt_of_lt_of_le (val_lt l) (Nat.pow_le_pow_right (by decide) hl)
  exact val_zero l hb (feed_inj _ hv h2)


/-- the eight bits of a byte, the lowest first -/
def bits8 (b : Nat) : List Nat := [b % 2, b / 2 % 2, b / 4 % 2, b / 8 % 2, b / 16 % 2, b / 32 % 2, b / 64 % 2, b / 128 % 2]
theorem val_bits8 {b : Nat} (h : b < 256) : val (bits8 b) = b := by
  simp only [bits8, val]; omega
theorem feed_byte (r : Nat) {b : Nat} (h : b < 256) : feed (r ^^^ b) (List.replicate 8 0) = feed r (bits8 b) := by
  have := feed_val (bits8 b) r
  rw [val_bits8 h] at this
  exact this
/-- all bits of some bytes -/
def bitsOf : List UInt8 → List Nat
  | [] => []
  | b :: l => bits8 b.toNat ++ bitsOf l
theorem bitsOf_append (l m : List UInt8) : bitsOf (l ++ m) = bitsOf l ++ bitsOf m := by
  induction l with
  | nil => rfl
  | cons b l ih => simp [bitsOf, ih]
/-- the register behind some bytes -/
def reg (l : List UInt8) : Nat := feed 4294967295 (bitsOf l)
theorem reg_lt (l : List UInt8) : reg l < 4294967296 := feed_lt _ (by decide)
theorem reg_snoc (l : List UInt8) (b : UInt8) : reg (l ++ [b]) = feed (reg l ^^^ b.toNat) (List.replicate 8 0) := by
  unfold reg
  rw [bitsOf_append, feed_append, feed_byte _ b.toNat_lt]
  simp [bitsOf]
theorem feed_snoc (r : Nat) (l : List Nat) (b : Nat) : feed r (l ++ [b]) = step (feed r l) b := by rw [feed_append]; rfl
/-- the sum of bytes -/
def sumN (l : List UInt8) : Nat := 4294967295 - reg l
end Go.Proofs.Ytpnkdpmhphhenab.CrcP
