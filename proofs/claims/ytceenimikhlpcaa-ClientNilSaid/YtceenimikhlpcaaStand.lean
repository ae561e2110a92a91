/-
  HOW TWO VALUES STAND. Plain.
-/
import Derived.Test.YtceenimikhlpcaaMono
namespace Go.Proofs.Ytceenimikhlpcaa
structure Val where
  k : Int
  n : Int
  f : Nat
  s : ByteArray
structure Val.Wf (v : Val) : Prop where
  k : -9223372036854775808 ≤ v.k ∧ v.k ≤ 9223372036854775807
  n0 : -9223372036854775808 ≤ v.n
  n1 : v.n ≤ 9223372036854775807
  f : v.f < 18446744073709551616
def Val.val (v : Val) : Value := .agg #[.int .i64 v.k, .int .i64 v.n, .float .f64 v.f, .string v.s]
/-- ahead of it, behind it, or neither -/
def tri (lt gt : Bool) : Int := if lt then 2 else if gt then 4 else 3
def ltS (a b : ByteArray) : Bool := Op.bytesLess a.toList b.toList
def ltP (p q : Int × Int) : Bool := decide (p.1 < q.1) || (decide (p.1 = q.1) && decide (p.2 < q.2))
/-- where a number stands: the float next to it, and what it lies behind that -/
def nk (v : Val) : Int × Int := if v.k = 1 then (wk v.n, v.n - wholeV v.n) else (rkey v.f, 0)
def isK (v : Val) : Bool := decide (v.k = 1) || decide (v.k = 2) || decide (v.k = 3)
def nanV (v : Val) : Bool := decide (v.k = 2) && isNan v.f
def stV (a b : Val) : Int :=
  if (isK a && isK b) = false then 0 else if a.k = 3 ∧ b.k = 3 then tri (ltS a.s b.s) (ltS b.s a.s) else if a.k = 3 ∨ b.k = 3 then 1
  else if (nanV a || nanV b) = true then 1 else tri (ltP (nk a) (nk b)) (ltP (nk b) (nk a))
/-- what a comparing answers -/
def opS (op s : Int) : Bool :=
  if s = 0 then false else if op = 1 then s == 3 else if op = 2 then s != 3 else if op = 3 then s == 2 else if op = 4 then s == 2 || s == 3 else if op = 5 then s == 4 else if op = 6 then s == 4 || s == 3 else false
/-- -1, 0, 1, or 2 -/
def sdI (s : Int) : Int := if s = 2 then -1 else if s = 3 then 0 else if s = 4 then 1 else 2
/-! ### texts -/
theorem bl_irr : ∀ (l m : List UInt8), Op.bytesLess l m = true → Op.bytesLess m l = false
  | [], [], h => by simp [Op.bytesLess] at h
  | [], _ :: _, _ => by simp [Op.bytesLess]
  | _ :: _, [], h => by simp [Op.bytesLess] at h
  | x :: l, y :: m, h => by
    simp only [Op.bytesLess, Bool.or_eq_true, Bool.and_eq_true, decide_eq_true_eq, beq_iff_eq, Bool.or_eq_false_iff, Bool.and_eq_false_iff, decide_eq_false_iff_not, beq_eq_false_iff_ne] at h ⊢
    rw [UInt8.lt_iff_toNat_lt] at h ⊢
    rcases h with h | ⟨rfl, h⟩
    · exact ⟨by omega, .inl (fun e => by subst e; omega)⟩
    · exact ⟨by omega, .inr (bl_irr l m h)⟩
theorem bl_trans : ∀ (l m k : List UInt8), Op.bytesLess l m = true → Op.bytesLess m k = true → Op.bytesLess l k = true
  | _, [], _, h, _ => by cases ‹List UInt8› <;> simp [Op.bytesLess] at h
  | _, _ :: _, [], _, h => by simp [Op.bytesLess] at h
  | [], _ :: _, _ :: _, _, _ => by simp [Op.bytesLess]
  | x :: l, y :: m, z :: k, h, h' => by
    simp only [Op.bytesLess, Bool.or_eq_true, Bool.and_eq_true, decide_eq_true_eq, beq_iff_eq] at h h' ⊢
    rw [UInt8.lt_iff_toNat_lt] at *
    rcases h with h | ⟨rfl, h⟩
    · rcases h' with h' | ⟨rfl, h'⟩
      · exact .inl (by omega)
      · exact .inl h
    · rcases h' with h' | ⟨rfl, h'⟩
      · exact .inl h'
      · exact .inr ⟨rfl, bl_trans l m k h h'⟩
theorem bl_tot : ∀ (l m : List UInt8), Op.bytesLess l m = false → Op.bytesLess m l = false → l = m
  | [], [], _, _ => rfl
  | [], _ :: _, h, _ => by simp [Op.bytesLess] at h
  | _ :: _, [], _, h => by simp [Op.bytesLess] at h
  | x :: l, y :: m, h, h' => by
    simp only [Op.bytesLess, Bool.or_eq_false_iff, Bool.and_eq_false_iff, decide_eq_false_iff_not, beq_eq_false_iff_ne] at h h'
    rw [UInt8.lt_iff_toNat_lt] at *
    have e : x = y := by apply UInt8.toNat_inj.1; omega
    subst e
    rw [bl_tot l m (by rcases h.2 with h | h; exact absurd rfl h; exact h) (by rcases h'.2 with h | h; exact absurd rfl h; exact h)]
/-- a strict order, what neither stands ahead of being alike -/
structure Weak {α : Type} (L : α → α → Bool) : Prop where
  irr : ∀ x y, L x y = true → L y x = false
  tr : ∀ x y z, L x y = true → L y z = true → L x z = true
  al : ∀ x y z, L x y = false → L y x = false → L x z = L y z ∧ L z x = L z y
theorem weakS : Weak ltS where
  irr _ _ h := bl_irr _ _ h
  tr _ _ _ h h' := bl_trans _ _ _ h h'
  al x y z h h' := by unfold ltS at *; rw [bl_tot _ _ h h']; exact ⟨rfl, rfl⟩
theorem ltP_iff (p q : Int × Int) : ltP p q = true ↔ p.1 < q.1 ∨ (p.1 = q.1 ∧ p.2 < q.2) := by unfold ltP; simp
theorem ltP_not (p q : Int × Int) : ltP p q = false ↔ ¬ (p.1 < q.1 ∨ (p.1 = q.1 ∧ p.2 < q.2)) := by rw [← ltP_iff]; simp
theorem weakP : Weak ltP where
  irr x y h := by rw [ltP_iff] at h; rw [ltP_not]; omega
  tr x y z h h' := by rw [ltP_iff] at *; omega
  al x y z h h' := by
    rw [ltP_not] at h h'
    have e1 : x.1 = y.1 := by omega
    have e2 : x.2 = y.2 := by omega
    unfold ltP
    rw [e1, e2]
    exact ⟨rfl, rfl⟩
/-- the law of an order, of three -/
structure Ord3 (x xb y z : Int) : Prop where
  vx : x = -1 ∨ x = 0 ∨ x = 1 ∨ x = 2
  vy : y = -1 ∨ y = 0 ∨ y = 1 ∨ y = 2
  vz : z = -1 ∨ z = 0 ∨ z = 1 ∨ z = 2
  b : (x = 2 → xb = 2) ∧ (x ≠ 2 → xb = -x)
  t : x ≠ 2 → y ≠ 2 → z ≠ 2 ∧ (x = 0 → z = y) ∧ (y = 0 → z = x) ∧ (x = y → z = x)
theorem tri_cases (lt gt : Bool) : tri lt gt = 2 ∨ tri lt gt = 3 ∨ tri lt gt = 4 := by cases lt <;> cases gt <;> decide
theorem ord3_weak {α : Type} {L : α → α → Bool} (h : Weak L) (a b c : α) :
    Ord3 (sdI (tri (L a b) (L b a))) (sdI (tri (L b a) (L a b))) (sdI (tri (L b c) (L c b))) (sdI (tri (L a c) (L c a))) := by
  have i1 := h.irr a b
  have i2 := h.irr b c
  have i3 := h.irr a c
  have t1 := h.tr a b c
  have t2 := h.tr c b a
  have l1 := h.al a b c
  have l2 := h.al b c a
  generalize L a b = p at *
  generalize L b a = p' at *
  generalize L b c = q at *
  generalize L c b = q' at *
  generalize L a c = r at *
  generalize L c a = r' at *
  cases p <;> cases p' <;> cases q <;> cases q' <;> cases r <;> cases r' <;> simp at i1 i2 i3 t1 t2 l1 l2 <;> exact ⟨by decide, by decide, by decide, by decide, by decide⟩
theorem sdI_vals (s : Int) : sdI s = -1 ∨ sdI s = 0 ∨ sdI s = 1 ∨ sdI s = 2 := by
  unfold sdI
  split
  · exact .inl rfl
  · split
    · exact .inr (.inl rfl)
    · split
      · exact .inr (.inr (.inl rfl))
      · exact .inr (.inr (.inr rfl))
/-- what class a value is of: 0 none, 1 number, 2 text, 3 NaN -/
def clsV (v : Val) : Nat := if isK v = false then 0 else if v.k = 3 then 2 else if nanV v = true then 3 else 1
theorem stV_num {a b : Val} (ha : clsV a = 1) (hb : clsV b = 1) : stV a b = tri (ltP (nk a) (nk b)) (ltP (nk b) (nk a)) := by
  unfold clsV at ha hb
  unfold stV
  by_cases a1 : isK a = false
  · rw [if_pos a1] at ha; cases ha
  rw [if_neg a1] at ha
  by_cases b1 : isK b = false
  · rw [if_pos b1] at hb; cases hb
  rw [if_neg b1] at hb
  by_cases a2 : a.k = 3
  · rw [if_pos a2] at ha; cases ha
  rw [if_neg a2] at ha
  by_cases b2 : b.k = 3
  · rw [if_pos b2] at hb; cases hb
  rw [if_neg b2] at hb
  by_cases a3 : nanV a = true
  · rw [if_pos a3] at ha; cases ha
  by_cases b3 : nanV b = true
  · rw [if_pos b3] at hb; cases hb
  rw [if_neg (by simp_all), if_neg (by simp_all), if_neg (by simp_all), if_neg (by simp_all)]
theorem stV_text {a b : Val} (ha : clsV a = 2) (hb : clsV b = 2) : stV a b = tri (ltS a.s b.s) (ltS b.s a.s) := by
  unfold clsV at ha hb
  unfold stV
  by_cases a1 : isK a = false
  · rw [if_pos a1] at ha; cases ha
  rw [if_neg a1] at ha
  by_cases b1 : isK b = false
  · rw [if_pos b1] at hb; cases hb
  rw [if_neg b1] at hb
  by_cases a2 : a.k = 3
  · by_cases b2 : b.k = 3
    · rw [if_neg (by simp_all), if_pos ⟨a2, b2⟩]
    · rw [if_neg b2] at hb; split at hb <;> cases hb
  · rw [if_neg a2] at ha; split at ha <;> cases ha
theorem stV_else {a b : Val} (h1 : ¬ (clsV a = 1 ∧ clsV b = 1)) (h2 : ¬ (clsV a = 2 ∧ clsV b = 2)) : stV a b = 0 ∨ stV a b = 1 := by
  unfold stV
  by_cases a1 : (isK a && isK b) = false
  · rw [if_pos a1]; exact .inl rfl
  rw [if_neg a1]
  have ka : isK a = true := by cases h : isK a <;> simp_all
  have kb : isK b = true := by cases h : isK b <;> simp_all
  by_cases a2 : a.k = 3 ∧ b.k = 3
  · exact absurd (show clsV a = 2 ∧ clsV b = 2 by unfold clsV; simp [ka, kb, a2.1, a2.2]) h2
  rw [if_neg a2]
  by_cases a3 : a.k = 3 ∨ b.k = 3
  · rw [if_pos a3]; exact .inr rfl
  rw [if_neg a3]
  by_cases a4 : (nanV a || nanV b) = true
  · rw [if_pos a4]; exact .inr rfl
  have na : nanV a = false := by cases h : nanV a <;> simp_all
  have nb : nanV b = false := by cases h : nanV b <;> simp_all
  exact absurd (show clsV a = 1 ∧ clsV b = 1 by
    unfold clsV
    have x1 : ¬ a.k = 3 := fun e => a3 (.inl e)
    have x2 : ¬ b.k = 3 := fun e => a3 (.inr e)
    simp [ka, kb, na, nb, x1, x2]) h1
theorem sdI_else {s : Int} (h : s = 0 ∨ s = 1) : sdI s = 2 := by rcases h with rfl | rfl <;> rfl
/-- VALUES STAND AS AN ORDER -/
theorem stV_order (a b c : Val) : Ord3 (sdI (stV a b)) (sdI (stV b a)) (sdI (stV b c)) (sdI (stV a c)) := by
  by_cases n2 : clsV a = 1 ∧ clsV b = 1
  · by_cases c1 : clsV c = 1
    · rw [stV_num n2.1 n2.2, stV_num n2.2 n2.1, stV_num n2.2 c1, stV_num n2.1 c1]
      exact ord3_weak weakP (nk a) (nk b) (nk c)
    · have hb := sdI_else (stV_else (a := b) (b := c) (fun h => c1 h.2) (fun h => by omega))
      have hh := ord3_weak weakP (nk a) (nk b) (nk b)
      rw [hb]
      rw [stV_num n2.1 n2.2, stV_num n2.2 n2.1]
      exact ⟨hh.vx, by decide, sdI_vals _, hh.b, fun _ h => absurd rfl h⟩
  · by_cases t2 : clsV a = 2 ∧ clsV b = 2
    · by_cases c1 : clsV c = 2
      · rw [stV_text t2.1 t2.2, stV_text t2.2 t2.1, stV_text t2.2 c1, stV_text t2.1 c1]
        exact ord3_weak weakS a.s b.s c.s
      · have hb := sdI_else (stV_else (a := b) (b := c) (fun h => by omega) (fun h => c1 h.2))
        have hh := ord3_weak weakS a.s b.s b.s
        rw [hb]
        rw [stV_text t2.1 t2.2, stV_text t2.2 t2.1]
        exact ⟨hh.vx, by decide, sdI_vals _, hh.b, fun _ h => absurd rfl h⟩
    · have h1 := sdI_else (stV_else n2 t2)
      have h2 := sdI_else (stV_else (a := b) (b := a) (fun h => n2 ⟨h.2, h.1⟩) (fun h => t2 ⟨h.2, h.1⟩))
      rw [h1, h2]
      exact ⟨by decide, sdI_vals _, sdI_vals _, ⟨fun _ => rfl, fun h => absurd rfl h⟩, fun h => absurd rfl h⟩
end Go.Proofs.Ytceenimikhlpcaa
