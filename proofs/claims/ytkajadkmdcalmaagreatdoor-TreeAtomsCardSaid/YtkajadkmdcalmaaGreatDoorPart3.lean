/-
  WHAT THE ROWS REST ON, part 3: Stand Open Cmp Mixed.
-/
import Derived.Deep.Slices
import Derived.Deep.Fields
import Derived.ChangeSame
import Derived.Lib.SmallJoins
import Derived.Lib.QuietBelow
import Derived.Test.YtkajadkmdcalmaaGreatDoorPart2
/-
  HOW TWO VALUES STAND. Plain.
-/
namespace Go.Proofs.YtkajadkmdcalmaaGreatDoor
structure Val where
  k : Int
  n : Int
  f : Nat
  s : ByteArray
structure Val.Wf (v : Val) : Prop where
  k : -9223372036854775808 ≤ v.k ∧ v.k ≤ 9223372036854775807
  n0 : -9223372036854775808 ≤ v.n
  n1 : v.n ≤ 9223372036854775807
  f : v.f < 18446744073709551616
def Val.val (v : Val) : Value := .agg #[.int .i64 v.k, .int .i64 v.n, .float .f64 v.f, .string v.s]
/-- ahead of it, behind it, or neither -/
def tri (lt gt : Bool) : Int := if lt then 2 else if gt then 4 else 3
def ltS (a b : ByteArray) : Bool := Op.bytesLess a.toList b.toList
def ltP (p q : Int × Int) : Bool := decide (p.1 < q.1) || (decide (p.1 = q.1) && decide (p.2 < q.2))
/-- where a number stands: the float next to it, and what it lies behind that -/
def nk (v : Val) : Int × Int := if v.k = 1 then (wk v.n, v.n - wholeV v.n) else (rkey v.f, 0)
def isK (v : Val) : Bool := decide (v.k = 1) || decide (v.k = 2) || decide (v.k = 3)
def nanV (v : Val) : Bool := decide (v.k = 2) && isNan v.f
def stV (a b : Val) : Int :=
  if (isK a && isK b) = false then 0 else if a.k = 3 ∧ b.k = 3 then tri (ltS a.s b.s) (ltS b.s a.s) else if a.k = 3 ∨ b.k = 3 then 1
  else if (nanV a || nanV b) = true then 1 else tri (ltP (nk a) (nk b)) (ltP (nk b) (nk a))
/-- what a comparing answers -/
def opS (op s : Int) : Bool :=
  if s = 0 then false else if op = 1 then s == 3 else if op = 2 then s != 3 else if op = 3 then s == 2 else if op = 4 then s == 2 || s == 3 else if op = 5 then s == 4 else if op = 6 then s == 4 || s == 3 else false
/-- -1, 0, 1, or 2 -/
def sdI (s : Int) : Int := if s = 2 then -1 else if s = 3 then 0 else if s = 4 then 1 else 2
/-! ### texts -/
theorem bl_irr : ∀ (l m : List UInt8), Op.bytesLess l m = true → Op.bytesLess m l = false
  | [], [], h => by simp [Op.bytesLess] at h
  | [], _ :: _, _ => by simp [Op.bytesLess]
  | _ :: _, [], h => by simp [Op.bytesLess] at h
  | x :: l, y :: m, h => by
    simp only [Op.bytesLess, Bool.or_eq_true, Bool.and_eq_true, decide_eq_true_eq, beq_iff_eq, Bool.or_eq_false_iff, Bool.and_eq_false_iff, decide_eq_false_iff_not, beq_eq_false_iff_ne] at h ⊢
    rw [UInt8.lt_iff_toNat_lt] at h ⊢
    rcases h with h | ⟨rfl, h⟩
    · exact ⟨by omega, .inl (fun e => by subst e; omega)⟩
    · exact ⟨by omega, .inr (bl_irr l m h)⟩
theorem bl_trans : ∀ (l m k : List UInt8), Op.bytesLess l m = true → Op.bytesLess m k = true → Op.bytesLess l k = true
  | _, [], _, h, _ => by cases ‹List UInt8› <;> simp [Op.bytesLess] at h
  | _, _ :: _, [], _, h => by simp [Op.bytesLess] at h
  | [], _ :: _, _ :: _, _, _ => by simp [Op.bytesLess]
  | x :: l, y :: m, z :: k, h, h' => by
    simp only [Op.bytesLess, Bool.or_eq_true, Bool.and_eq_true, decide_eq_true_eq, beq_iff_eq] at h h' ⊢
    rw [UInt8.lt_iff_toNat_lt] at *
    rcases h with h | ⟨rfl, h⟩
    · rcases h' with h' | ⟨rfl, h'⟩
      · exact .inl (by omega)
      · exact .inl h
    · rcases h' with h' | ⟨rfl, h'⟩
      · exact .inl h'
      · exact .inr ⟨rfl, bl_trans l m k h h'⟩
theorem bl_tot : ∀ (l m : List UInt8), Op.bytesLess l m = false → Op.bytesLess m l = false → l = m
  | [], [], _, _ => rfl
  | [], _ :: _, h, _ => by simp [Op.bytesLess] at h
  | _ :: _, [], _, h => by simp [Op.bytesLess] at h
  | x :: l, y :: m, h, h' => by
    simp only [Op.bytesLess, Bool.or_eq_false_iff, Bool.and_eq_false_iff, decide_eq_false_iff_not, beq_eq_false_iff_ne] at h h'
    rw [UInt8.lt_iff_toNat_lt] at *
    have e : x = y := by apply UInt8.toNat_inj.1; omega
    subst e
    rw [bl_tot l m (by rcases h.2 with h | h; exact absurd rfl h; exact h) (by rcases h'.2 with h | h; exact absurd rfl h; exact h)]
/-- a strict order, what neither stands ahead of being alike -/
structure Weak {α : Type} (L : α → α → Bool) : Prop where
  irr : ∀ x y, L x y = true → L y x = false
  tr : ∀ x y z, L x y = true → L y z = true → L x z = true
  al : ∀ x y z, L x y = false → L y x = false → L x z = L y z ∧ L z x = L z y
theorem weakS : Weak ltS where
  irr _ _ h := bl_irr _ _ h
  tr _ _ _ h h' := bl_trans _ _ _ h h'
  al x y z h h' := by unfold ltS at *; rw [bl_tot _ _ h h']; exact ⟨rfl, rfl⟩
theorem ltP_iff (p q : Int × Int) : ltP p q = true ↔ p.1 < q.1 ∨ (p.1 = q.1 ∧ p.2 < q.2) := by unfold ltP; simp
theorem ltP_not (p q : Int × Int) : ltP p q = false ↔ ¬ (p.1 < q.1 ∨ (p.1 = q.1 ∧ p.2 < q.2)) := by rw [← ltP_iff]; simp
theorem weakP : Weak ltP where
  irr x y h := by rw [ltP_iff] at h; rw [ltP_not]; omega
  tr x y z h h' := by rw [ltP_iff] at *; omega
  al x y z h h' := by
    rw [ltP_not] at h h'
    have e1 : x.1 = y.1 := by omega
    have e2 : x.2 = y.2 := by omega
    unfold ltP
    rw [e1, e2]
    exact ⟨rfl, rfl⟩
/-- the law of an order, of three -/
structure Ord3 (x xb y z : Int) : Prop where
  vx : x = -1 ∨ x = 0 ∨ x = 1 ∨ x = 2
  vy : y = -1 ∨ y = 0 ∨ y = 1 ∨ y = 2
  vz : z = -1 ∨ z = 0 ∨ z = 1 ∨ z = 2
  b : (x = 2 → xb = 2) ∧ (x ≠ 2 → xb = -x)
  t : x ≠ 2 → y ≠ 2 → z ≠ 2 ∧ (x = 0 → z = y) ∧ (y = 0 → z = x) ∧ (x = y → z = x)
theorem tri_cases (lt gt : Bool) : tri lt gt = 2 ∨ tri lt gt = 3 ∨ tri lt gt = 4 := by cases lt <;> cases gt <;> decide
theorem ord3_weak {α : Type} {L : α → α → Bool} (h : Weak L) (a b c : α) :
    Ord3 (sdI (tri (L a b) (L b a))) (sdI (tri (L b a) (L a b))) (sdI (tri (L b c) (L c b))) (sdI (tri (L a c) (L c a))) := by
  have i1 := h.irr a b
  have i2 := h.irr b c
  have i3 := h.irr a c
  have t1 := h.tr a b c
  have t2 := h.tr c b a
  have l1 := h.al a b c
  have l2 := h.al b c a
  generalize L a b = p at *
  generalize L b a = p' at *
  generalize L b c = q at *
  generalize L c b = q' at *
  generalize L a c = r at *
  generalize L c a = r' at *
  cases p <;> cases p' <;> cases q <;> cases q' <;> cases r <;> cases r' <;> simp at i1 i2 i3 t1 t2 l1 l2 <;> exact ⟨by decide, by decide, by decide, by decide, by decide⟩
theorem sdI_vals (s : Int) : sdI s = -1 ∨ sdI s = 0 ∨ sdI s = 1 ∨ sdI s = 2 := by
  unfold sdI
  split
  · exact .inl rfl
  · split
    · exact .inr (.inl rfl)
    · split
      · exact .inr (.inr (.inl rfl))
      · exact .inr (.inr (.inr rfl))
/-- what class a value is of: 0 none, 1 number, 2 text, 3 NaN -/
def clsV (v : Val) : Nat := if isK v = false then 0 else if v.k = 3 then 2 else if nanV v = true then 3 else 1
theorem stV_num {a b : Val} (ha : clsV a = 1) (hb : clsV b = 1) : stV a b = tri (ltP (nk a) (nk b)) (ltP (nk b) (nk a)) := by
  unfold clsV at ha hb
  unfold stV
  by_cases a1 : isK a = false
  · rw [if_pos a1] at ha; cases ha
  rw [if_neg a1] at ha
  by_cases b1 : isK b = false
  · rw [if_pos b1] at hb; cases hb
  rw [if_neg b1] at hb
  by_cases a2 : a.k = 3
  · rw [if_pos a2] at ha; cases ha
  rw [if_neg a2] at ha
  by_cases b2 : b.k = 3
  · rw [if_pos b2] at hb; cases hb
  rw [if_neg b2] at hb
  by_cases a3 : nanV a = true
  · rw [if_pos a3] at ha; cases ha
  by_cases b3 : nanV b = true
  · rw [if_pos b3] at hb; cases hb
  rw [if_neg (by simp_all), if_neg (by simp_all), if_neg (by simp_all), if_neg (by simp_all)]
theorem stV_text {a b : Val} (ha : clsV a = 2) (hb : clsV b = 2) : stV a b = tri (ltS a.s b.s) (ltS b.s a.s) := by
  unfold clsV at ha hb
  unfold stV
  by_cases a1 : isK a = false
  · rw [if_pos a1] at ha; cases ha
  rw [if_neg a1] at ha
  by_cases b1 : isK b = false
  · rw [if_pos b1] at hb; cases hb
  rw [if_neg b1] at hb
  by_cases a2 : a.k = 3
  · by_cases b2 : b.k = 3
    · rw [if_neg (by simp_all), if_pos ⟨a2, b2⟩]
    · rw [if_neg b2] at hb; split at hb <;> cases hb
  · rw [if_neg a2] at ha; split at ha <;> cases ha
theorem stV_else {a b : Val} (h1 : ¬ (clsV a = 1 ∧ clsV b = 1)) (h2 : ¬ (clsV a = 2 ∧ clsV b = 2)) : stV a b = 0 ∨ stV a b = 1 := by
  unfold stV
  by_cases a1 : (isK a && isK b) = false
  · rw [if_pos a1]; exact .inl rfl
  rw [if_neg a1]
  have ka : isK a = true := by cases h : isK a <;> simp_all
  have kb : isK b = true := by cases h : isK b <;> simp_all
  by_cases a2 : a.k = 3 ∧ b.k = 3
  · exact absurd (show clsV a = 2 ∧ clsV b = 2 by unfold clsV; simp [ka, kb, a2.1, a2.2]) h2
  rw [if_neg a2]
  by_cases a3 : a.k = 3 ∨ b.k = 3
  · rw [if_pos a3]; exact .inr rfl
  rw [if_neg a3]
  by_cases a4 : (nanV a || nanV b) = true
  · rw [if_pos a4]; exact .inr rfl
  have na : nanV a = false := by cases h : nanV a <;> simp_all
  have nb : nanV b = false := by cases h : nanV b <;> simp_all
  exact absurd (show clsV a = 1 ∧ clsV b = 1 by
    unfold clsV
    have x1 : ¬ a.k = 3 := fun e => a3 (.inl e)
    have x2 : ¬ b.k = 3 := fun e => a3 (.inr e)
    simp [ka, kb, na, nb, x1, x2]) h1
theorem sdI_else {s : Int} (h : s = 0 ∨ s = 1) : sdI s = 2 := by rcases h with rfl | rfl <;> rfl
/-- VALUES STAND AS AN ORDER -/
theorem stV_order (a b c : Val) : Ord3 (sdI (stV a b)) (sdI (stV b a)) (sdI (stV b c)) (sdI (stV a c)) := by
  by_cases n2 : clsV a = 1 ∧ clsV b = 1
  · by_cases c1 : clsV c = 1
    · rw [stV_num n2.1 n2.2, stV_num n2.2 n2.1, stV_num n2.2 c1, stV_num n2.1 c1]
      exact ord3_weak weakP (nk a) (nk b) (nk c)
    · have hb := sdI_else (stV_else (a := b) (b := c) (fun h => c1 h.2) (fun h => by omega))
      have hh := ord3_weak weakP (nk a) (nk b) (nk b)
      rw [hb]
      rw [stV_num n2.1 n2.2, stV_num n2.2 n2.1]
      exact ⟨hh.vx, by decide, sdI_vals _, hh.b, fun _ h => absurd rfl h⟩
  · by_cases t2 : clsV a = 2 ∧ clsV b = 2
    · by_cases c1 : clsV c = 2
      · rw [stV_text t2.1 t2.2, stV_text t2.2 t2.1, stV_text t2.2 c1, stV_text t2.1 c1]
        exact ord3_weak weakS a.s b.s c.s
      · have hb := sdI_else (stV_else (a := b) (b := c) (fun h => by omega) (fun h => c1 h.2))
        have hh := ord3_weak weakS a.s b.s b.s
        rw [hb]
        rw [stV_text t2.1 t2.2, stV_text t2.2 t2.1]
        exact ⟨hh.vx, by decide, sdI_vals _, hh.b, fun _ h => absurd rfl h⟩
    · have h1 := sdI_else (stV_else n2 t2)
      have h2 := sdI_else (stV_else (a := b) (b := a) (fun h => n2 ⟨h.2, h.1⟩) (fun h => t2 ⟨h.2, h.1⟩))
      rw [h1, h2]
      exact ⟨by decide, sdI_vals _, sdI_vals _, ⟨fun _ => rfl, fun h => absurd rfl h⟩, fun h => absurd rfl h⟩
end Go.Proofs.YtkajadkmdcalmaaGreatDoor
/-
  FOR THE ROWS: a value that came in.
-/
namespace Go.Proofs.YtkajadkmdcalmaaGreatDoor
open Go.Joins Go.ChangeShapes Go.WideShapes Go.RowKit Go.Deep
theorem trod_float {H : Type} {enc : TypeId × Value → H} {P : Program} {w : World} {base : Nat} {spare : Nat → Bool} {held : Bool} {fuel : Nat} {t : TypeId} {cs : List Value} {x : DataW H × List MemPlace} {k : FloatKind} (ht : P.underlying t = some (.float k)) (h : DataW.trod enc P w base spare held fuel t cs = some x) :
    ∃ n, cs = [.float k n] ∧ x = (.lit (.float k n), []) ∧ (Lit.float k n).wf = true := by
  cases fuel with
  | zero => simp [DataW.trod] at h
  | succ n =>
    unfold DataW.trod at h
    rw [ht] at h
    split at h <;> simp_all
theorem wf_f64 {n : Nat} (h : (Lit.float .f64 n).wf = true) : n < 18446744073709551616 := by
  have h2 : n < 2 ^ 64 := of_decide_eq_true h
  omega
theorem wf_i64 {n : Int} (h : (Lit.int .i64 n).wf = true) : -9223372036854775808 ≤ n ∧ n ≤ 9223372036854775807 := by
  have := bounds_i64 h
  exact ⟨by omega, by omega⟩
theorem one47 : oneCellFields Tryz.prog #[{ name := "Kind", type := 3, offset := 0, embedded := false, tag := "", pkgPath := "", byteOffset := 0 }, { name := "N", type := 3, offset := 1, embedded := false, tag := "", pkgPath := "", byteOffset := 8 }, { name := "F", type := 70, offset := 2, embedded := false, tag := "", pkgPath := "", byteOffset := 16 }, { name := "S", type := 9, offset := 3, embedded := false, tag := "", pkgPath := "", byteOffset := 24 }] = true := by kernel_rfl
theorem ce47 : Tryz.prog.cellsOf 72 = 4 := by kernel_rfl
set_option maxRecDepth 100000 in
theorem open_val {H : Type} {enc : TypeId × Value → H} {W : World} {base : Nat} {v : Value} {d : DataW H} {p : List MemPlace} (hv : Value.okWide Tryz.prog W .any base 72 v) (h : DataW.Trod enc Tryz.prog W 0 (fun _ => true) true 72 v d p) : ∃ a : Val, v = a.val ∧ a.Wf := by
  obtain ⟨v0, v1, v2, v3, y0, y1, y2, y3, n, rfl, _, _, h0, h1, h2, h3⟩ := open_agg4 Tryz.underlying72 one47 ce47 hv h
  obtain ⟨k0, e0, _, w0⟩ := DataW.trod_int Tryz.underlying3 h0
  obtain ⟨k1, e1, _, w1⟩ := DataW.trod_int Tryz.underlying3 h1
  obtain ⟨f2, e2, _, w2⟩ := trod_float Tryz.underlying70 h2
  obtain ⟨s3, e3, _, w3⟩ := DataW.trod_string Tryz.underlying9 h3
  simp only [List.cons.injEq, and_true] at e0 e1 e2 e3
  subst e0 e1 e2 e3
  exact ⟨⟨k0, k1, f2, s3⟩, rfl, wf_i64 w0, (wf_i64 w1).1, (wf_i64 w1).2, wf_f64 w2⟩
end Go.Proofs.YtkajadkmdcalmaaGreatDoor
/-
  THE WALKS OF event.order at its three types, event.turned, event.kind, event.mixed.
-/
namespace Go.Proofs.YtkajadkmdcalmaaGreatDoor
open Go.RowKit
def trI (n m : Int) : Int := if n < m then 2 else if n = m then 3 else 4
theorem orderI_any (n m : Int) (w : World) : Calls Tryz.prog 74 #[.int .i64 n, .int .i64 m] w fun e w' => e = .returned (.int .i64 (trI n m)) ∧ w = w' := by
  unfold trI
  by_cases h1 : n < m
  · rw [if_pos h1]
    go_enter Tryz.func74, Tryz.ntmps74
    go_wp2_with fail
    go_ret
    exact ⟨rfl, rfl⟩
  · rw [if_neg h1]
    by_cases h2 : n = m
    · subst h2
      rw [if_pos rfl]
      go_enter Tryz.func74, Tryz.ntmps74
      go_wp2_with fail
      go_ret
      exact ⟨rfl, rfl⟩
    · rw [if_neg h2]
      have d : (n == m) = false := by simpa using h2
      have h3 : m < n := by omega
      clear h2
      go_enter Tryz.func74, Tryz.ntmps74
      go_wp2_with fail
      go_ret
      exact ⟨rfl, rfl⟩
def trO : Option Ordering → Int
  | none => 1
  | some .lt => 2
  | some .eq => 3
  | some .gt => 4
theorem orderF_bools (x y : Nat) (e l g : Bool) (H1 : (FloatKind.f64.format.order x y == some .eq) = e) (H3 : (FloatKind.f64.format.order x y == some .lt) = l) (H4 : (FloatKind.f64.format.order x y == some .gt) = g) (w : World) :
    Calls Tryz.prog 77 #[.float .f64 x, .float .f64 y] w fun r w' => r = .returned (.int .i64 (if l then 2 else if e then 3 else if g then 4 else 1)) ∧ w = w' := by
  cases e <;> cases l <;> cases g
  all_goals
    go_enter Tryz.func77, Tryz.ntmps77
    go_wp2_with fail
    go_ret
    exact ⟨rfl, rfl⟩
theorem orderF_core (x y : Nat) (o : Option Ordering) (ho : FloatKind.f64.format.order x y = o) (w : World) : Calls Tryz.prog 77 #[.float .f64 x, .float .f64 y] w fun e w' => e = .returned (.int .i64 (trO o)) ∧ w = w' := by
  have := orderF_bools x y (o == some .eq) (o == some .lt) (o == some .gt) (by rw [ho]) (by rw [ho]) (by rw [ho]) w
  rcases o with _ | _ | _ | _ <;> exact this
theorem orderF_any (x y : Nat) (hx : x < 18446744073709551616) (hy : y < 18446744073709551616) (w : World) : Calls Tryz.prog 77 #[.float .f64 x, .float .f64 y] w fun e w' => e = .returned (.int .i64 (trO (ord x y))) ∧ w = w' :=
  orderF_core x y _ (ord_order x y hx hy) w
theorem orderS_any (a b : ByteArray) (w : World) : Calls Tryz.prog 73 #[.string a, .string b] w fun e w' => e = .returned (.int .i64 (tri (ltS a b) (ltS b a))) ∧ w = w' := by
  have I := bl_irr a.toList b.toList
  have T := bl_tot a.toList b.toList
  unfold ltS
  cases h1 : Op.bytesLess a.toList b.toList
  · cases h2 : (a.toList == b.toList)
    · have h3 : Op.bytesLess b.toList a.toList = true := by
        cases h4 : Op.bytesLess b.toList a.toList
        · have := T h1 h4
          rw [this] at h2
          simp at h2
        · rfl
      rw [h3]
      clear I T
      go_enter Tryz.func73, Tryz.ntmps73
      go_wp2_with fail
      go_ret
      exact ⟨rfl, rfl⟩
    · have h3 : Op.bytesLess b.toList a.toList = false := by
        have e : a.toList = b.toList := by simpa using h2
        rw [e] at h1 ⊢
        exact h1
      rw [h3]
      clear I T
      go_enter Tryz.func73, Tryz.ntmps73
      go_wp2_with fail
      go_ret
      exact ⟨rfl, rfl⟩
  · have h3 := I h1
    rw [h3]
    clear I T
    go_enter Tryz.func73, Tryz.ntmps73
    go_wp2_with fail
    go_ret
    exact ⟨rfl, rfl⟩
def tnI (s : Int) : Int := if s = 2 then 4 else if s = 4 then 2 else s
theorem turned_any (s : Int) (w : World) : Calls Tryz.prog 76 #[.int .i64 s] w fun e w' => e = .returned (.int .i64 (tnI s)) ∧ w = w' := by
  unfold tnI
  by_cases h1 : s = 2
  · subst h1
    go_enter Tryz.func76, Tryz.ntmps76
    go_wp2_with fail
    go_ret
    exact ⟨rfl, rfl⟩
  · rw [if_neg h1]
    by_cases h2 : s = 4
    · subst h2
      go_enter Tryz.func76, Tryz.ntmps76
      go_wp2_with fail
      go_ret
      exact ⟨rfl, rfl⟩
    · rw [if_neg h2]
      have d1 : (s == 2) = false := by simpa using h1
      have d2 : (s == 4) = false := by simpa using h2
      clear h1 h2
      go_enter Tryz.func76, Tryz.ntmps76
      go_wp2_with fail
      go_ret
      exact ⟨rfl, rfl⟩
theorem kind_any (v : Val) (w : World) : Calls Tryz.prog 72 #[v.val] w fun e w' => e = .returned (.bool (isK v)) ∧ Below w.heap.size w w' := by
  obtain ⟨k, n, f, s⟩ := v
  unfold Val.val isK
  simp only
  have FIN := Lib.hid ((Below.refl _ w).alloc (Nat.le_refl _) (.cells #[.int .i64 k, .int .i64 n, .float .f64 f, .string s] 72))
  by_cases h1 : k = 1
  · subst h1
    go_enter Tryz.func72, Tryz.ntmps72
    go_wp2_with fail
    go_ret
    exact ⟨rfl, FIN.out⟩
  by_cases h2 : k = 2
  · subst h2
    go_enter Tryz.func72, Tryz.ntmps72
    go_wp2_with fail
    go_ret
    exact ⟨rfl, FIN.out⟩
  by_cases h3 : k = 3
  · subst h3
    go_enter Tryz.func72, Tryz.ntmps72
    go_wp2_with fail
    go_ret
    exact ⟨rfl, FIN.out⟩
  have d1 : (k == 1) = false := by simpa using h1
  have d2 : (k == 2) = false := by simpa using h2
  have d3 : (k == 3) = false := by simpa using h3
  have R := Lib.hid (show false = (decide (k = 1) || decide (k = 2) || decide (k = 3)) by simp [h1, h2, h3])
  clear h1 h2 h3
  go_enter Tryz.func72, Tryz.ntmps72
  go_wp2_with fail
  go_ret
  exact ⟨ret_bool R.out, FIN.out⟩
end Go.Proofs.YtkajadkmdcalmaaGreatDoor
/-
  A WHOLE NUMBER AND A REAL ONE: event.mixed.
-/
namespace Go.Proofs.YtkajadkmdcalmaaGreatDoor
open Go.RowKit
/-- how a whole number stands to a real one -/
def mxI (n : Int) (f : Nat) : Int := if isNan f = true then 1 else tri (ltP (wk n, n - wholeV n) (rkey f, 0)) (ltP (rkey f, 0) (wk n, n - wholeV n))
theorem rkey_inj {x y : Nat} (hx : x < 18446744073709551616) (hy : y < 18446744073709551616) (h : rkey x = rkey y) (h0 : rkey x ≠ 0) : x = y := by
  unfold rkey at *
  split at h <;> split at h <;> split at h0 <;> omega
theorem exact_whole {n : Int} (h0 : -9223372036854775808 ≤ n) (h1 : n ≤ 9223372036854775807) : isExact n.natAbs = true ↔ wholeV n = n := by
  have h := near_exact n.natAbs
  rw [← h]
  unfold wholeV sg
  by_cases hn : n < 0
  · simp only [hn, decide_true, if_true]; omega
  · simp only [hn, decide_false, Bool.false_eq_true, if_false]; omega
theorem wk_ne {n : Int} (hn : n ≠ 0) (h0 : -9223372036854775808 ≤ n) (h1 : n ≤ 9223372036854775807) : wk n ≠ 0 := by
  have := (rung_bounds (m := n.natAbs) (by omega) (by omega)).2.2
  rw [wk_sg hn h0 h1]
  split <;> omega
set_option maxHeartbeats 400000 in
theorem mixed_any (n : Int) (f : Nat) (h0 : -9223372036854775808 ≤ n) (h1 : n ≤ 9223372036854775807) (hf : f < 18446744073709551616) (w : World) :
    Calls Tryz.prog 75 #[.int .i64 n, .float .f64 f] w fun e w' => e = .returned (.int .i64 (mxI n f)) ∧ w = w' := by
  have A := whole_any n h0 h1
  have lw := wholeB_lt h0 h1
  have nw := wholeB_nan h0 h1
  have O := orderF_any (wholeB n) f lw hf
  have E := exact_whole h0 h1
  unfold mxI
  by_cases hn : isNan f = true
  · rw [if_pos hn]
    rw [ord_none_right hn] at O
    unfold trO at O
    clear hn E
    generalize wholeB n = x at *
    generalize isExact n.natAbs = b at *
    go_enter Tryz.func75, Tryz.ntmps75
    go_wp2_with fail
    refine (A _).mono ?_
    rintro e w1 ⟨rfl, rfl⟩
    go_wp2_with fail
    refine (O _).mono ?_
    rintro e w1 ⟨rfl, rfl⟩
    go_wp2_with fail
    all_goals go_ret
    all_goals exact ⟨rfl, rfl⟩
  · rw [if_neg hn]
    have hn : isNan f = false := by simpa using hn
    rw [ord_some nw hn] at O
    change ∀ w, Calls Tryz.prog 77 #[.float .f64 (wholeB n), .float .f64 f] w fun e w' => e = .returned (.int .i64 (trO (some (compare (wk n) (rkey f))))) ∧ w = w' at O
    rcases Int.lt_trichotomy (wk n) (rkey f) with ht | ht | ht
    · have R := Lib.hid (show (2 : Int) = tri (ltP (wk n, n - wholeV n) (rkey f, 0)) (ltP (rkey f, 0) (wk n, n - wholeV n)) by
        have : ltP (wk n, n - wholeV n) (rkey f, 0) = true := (ltP_iff _ _).2 (.inl ht)
        rw [this]; rfl)
      rw [compare_lt' ht] at O
      unfold trO at O
      clear hn E ht
      generalize wholeB n = x at *
      generalize isExact n.natAbs = b at *
      go_enter Tryz.func75, Tryz.ntmps75
      go_wp2_with fail
      refine (A _).mono ?_
      rintro e w1 ⟨rfl, rfl⟩
      go_wp2_with fail
      refine (O _).mono ?_
      rintro e w1 ⟨rfl, rfl⟩
      go_wp2_with fail
      all_goals go_ret
      all_goals exact ⟨by rw [← R.out]; rfl, rfl⟩
    · by_cases hx : isExact n.natAbs = true
      · have R := Lib.hid (show (3 : Int) = tri (ltP (wk n, n - wholeV n) (rkey f, 0)) (ltP (rkey f, 0) (wk n, n - wholeV n)) by
          have e := E.1 hx
          rw [show n - wholeV n = 0 by omega, ht]
          unfold ltP
          simp [tri])
        rw [compare_eq' ht] at O
        unfold trO at O
        rw [hx] at A
        clear hn E ht hx
        generalize wholeB n = x at *
        go_enter Tryz.func75, Tryz.ntmps75
        go_wp2_with fail
        refine (A _).mono ?_
        rintro e w1 ⟨rfl, rfl⟩
        go_wp2_with fail
        refine (O _).mono ?_
        rintro e w1 ⟨rfl, rfl⟩
        go_wp2_with fail
        go_ret
        exact ⟨by rw [← R.out]; rfl, rfl⟩
      · have hne : wholeV n ≠ n := fun e => hx (E.2 e)
        have n0 : n ≠ 0 := by rintro rfl; exact hne (by decide +kernel)
        have ef : f = wholeB n := (rkey_inj lw hf ht (wk_ne n0 h0 h1)).symm
        subst ef
        have hx' : isExact n.natAbs = false := by simpa using hx
        rw [compare_eq' ht] at O
        unfold trO at O
        rw [hx'] at A
        have T := whole_test n h0 h1
        have OO := ord_order (wholeB n) 4890909195324358656 lw (by decide)
        rw [ord_some nw (by decide)] at OO
        by_cases hv : wholeV n < 9223372036854775808
        · rw [decide_eq_true hv] at T
          have T' : (FloatKind.f64.format.order (wholeB n) 4890909195324358656 == some .gt) = false := by
            cases ho : FloatKind.f64.format.order (wholeB n) 4890909195324358656 with
            | none => rfl
            | some o => rw [ho] at T; cases o <;> first | rfl | (exact absurd T (by decide))
          have T2 : (FloatKind.f64.format.order (wholeB n) 4890909195324358656 == some .eq) = false := by
            cases ho : FloatKind.f64.format.order (wholeB n) 4890909195324358656 with
            | none => rfl
            | some o => rw [ho] at T; cases o <;> first | rfl | (exact absurd T (by decide))
          have C : ∀ w : World, (convert 70 3 (.float .f64 (wholeB n))).run Tryz.prog w = .ok (.int .i64 (wholeV n)) w := fun w => run_convert_float_int w 70 3 .f64 .i64 _ _ (by kernel_rfl) Tryz.underlying3 (whole_back n h0 h1 hv)
          have I := orderI_any n (wholeV n)
          have R := Lib.hid (show trI n (wholeV n) = tri (ltP (wk n, n - wholeV n) (rkey (wholeB n), 0)) (ltP (rkey (wholeB n), 0) (wk n, n - wholeV n)) by
            have e1 : ltP (wk n, n - wholeV n) (rkey (wholeB n), 0) = decide (n < wholeV n) := by
              apply Bool.eq_iff_iff.2
              rw [ltP_iff]
              simp only [decide_eq_true_eq]
              show wk n < wk n ∨ (wk n = wk n ∧ _) ↔ _
              omega
            have e2 : ltP (rkey (wholeB n), 0) (wk n, n - wholeV n) = decide (wholeV n < n) := by
              apply Bool.eq_iff_iff.2
              rw [ltP_iff]
              simp only [decide_eq_true_eq]
              show wk n < wk n ∨ (wk n = wk n ∧ _) ↔ _
              omega
            rw [e1, e2]
            unfold trI tri
            by_cases hl : n < wholeV n
            · simp [hl]
            · have : wholeV n < n := by omega
              simp [hl, this]; omega)
          have e3 : rkey (wholeB n) = wk n := rfl
          rw [← R.out]
          clear hn E ht hx hx' R OO hv hne n0 e3 T
          generalize wholeB n = x at *
          generalize wholeV n = v at *
          go_enter Tryz.func75, Tryz.ntmps75
          go_wp2_with fail
          refine (A _).mono ?_
          rintro e w1 ⟨rfl, rfl⟩
          go_wp2_with fail
          refine (O _).mono ?_
          rintro e w1 ⟨rfl, rfl⟩
          go_wp2_with fail
          refine (I _).mono ?_
          rintro e w1 ⟨rfl, rfl⟩
          go_wp2_with fail
          go_ret
          exact ⟨rfl, rfl⟩
        · rw [decide_eq_false hv] at T
          have hge : (FloatKind.f64.format.order (wholeB n) 4890909195324358656 == some .gt || FloatKind.f64.format.order (wholeB n) 4890909195324358656 == some .eq) = true := by
            rw [OO] at T ⊢
            cases ho : compare (rkey (wholeB n)) (rkey 4890909195324358656) <;> rw [ho] at T <;> first | rfl | (exact absurd T (by decide))
          have R := Lib.hid (show (2 : Int) = tri (ltP (wk n, n - wholeV n) (rkey (wholeB n), 0)) (ltP (rkey (wholeB n), 0) (wk n, n - wholeV n)) by
            have e1 : ltP (wk n, n - wholeV n) (rkey (wholeB n), 0) = true := by
              rw [ltP_iff]
              show wk n < wk n ∨ (wk n = wk n ∧ _)
              omega
            rw [e1]; rfl)
          rw [← R.out]
          clear hn E ht hx hx' R OO hv hne n0 T
          generalize wholeB n = x at *
          have hge2 : (FloatKind.f64.format.order x 4890909195324358656 == some .eq || FloatKind.f64.format.order x 4890909195324358656 == some .gt) = true := by rw [Bool.or_comm]; exact hge
          go_enter Tryz.func75, Tryz.ntmps75
          go_wp2_with fail
          refine (A _).mono ?_
          rintro e w1 ⟨rfl, rfl⟩
          go_wp2_with fail
          refine (O _).mono ?_
          rintro e w1 ⟨rfl, rfl⟩
          go_wp2_with fail
          go_ret
          exact ⟨rfl, rfl⟩
    · have R := Lib.hid (show (4 : Int) = tri (ltP (wk n, n - wholeV n) (rkey f, 0)) (ltP (rkey f, 0) (wk n, n - wholeV n)) by
        have e1 : ltP (wk n, n - wholeV n) (rkey f, 0) = false := (ltP_not _ _).2 (by simp only; omega)
        have e2 : ltP (rkey f, 0) (wk n, n - wholeV n) = true := (ltP_iff _ _).2 (.inl ht)
        rw [e1, e2]; rfl)
      rw [compare_gt' ht] at O
      unfold trO at O
      clear hn E ht
      generalize wholeB n = x at *
      generalize isExact n.natAbs = b at *
      go_enter Tryz.func75, Tryz.ntmps75
      go_wp2_with fail
      refine (A _).mono ?_
      rintro e w1 ⟨rfl, rfl⟩
      go_wp2_with fail
      refine (O _).mono ?_
      rintro e w1 ⟨rfl, rfl⟩
      go_wp2_with fail
      all_goals go_ret
      all_goals exact ⟨by rw [← R.out]; rfl, rfl⟩
end Go.Proofs.YtkajadkmdcalmaaGreatDoor
