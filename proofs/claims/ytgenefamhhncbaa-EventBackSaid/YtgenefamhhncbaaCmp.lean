/-
  THE WALKS OF event.order at its three types, event.turned, event.kind, event.mixed.
-/
import Derived.Test.YtgenefamhhncbaaStand
import Derived.Lib.QuietBelow
namespace Go.Proofs.Ytgenefamhhncbaa
open Go.RowKit
def trI (n m : Int) : Int := if n < m then 2 else if n = m then 3 else 4
theorem orderI_any (n m : Int) (w : World) : Calls Try.prog 73 #[.int .i64 n, .int .i64 m] w fun e w' => e = .returned (.int .i64 (trI n m)) ∧ w = w' := by
  unfold trI
  by_cases h1 : n < m
  · rw [if_pos h1]
    go_enter Try.func73, Try.ntmps73
    go_wp2_with fail
    go_ret
    exact ⟨rfl, rfl⟩
  · rw [if_neg h1]
    by_cases h2 : n = m
    · subst h2
      rw [if_pos rfl]
      go_enter Try.func73, Try.ntmps73
      go_wp2_with fail
      go_ret
      exact ⟨rfl, rfl⟩
    · rw [if_neg h2]
      have d : (n == m) = false := by simpa using h2
      have h3 : m < n := by omega
      clear h2
      go_enter Try.func73, Try.ntmps73
      go_wp2_with fail
      go_ret
      exact ⟨rfl, rfl⟩
def trO : Option Ordering → Int
  | none => 1
  | some .lt => 2
  | some .eq => 3
  | some .gt => 4
theorem orderF_bools (x y : Nat) (e l g : Bool) (H1 : (FloatKind.f64.format.order x y == some .eq) = e) (H3 : (FloatKind.f64.format.order x y == some .lt) = l) (H4 : (FloatKind.f64.format.order x y == some .gt) = g) (w : World) :
    Calls Try.prog 76 #[.float .f64 x, .float .f64 y] w fun r w' => r = .returned (.int .i64 (if l then 2 else if e then 3 else if g then 4 else 1)) ∧ w = w' := by
  cases e <;> cases l <;> cases g
  all_goals
    go_enter Try.func76, Try.ntmps76
    go_wp2_with fail
    go_ret
    exact ⟨rfl, rfl⟩
theorem orderF_core (x y : Nat) (o : Option Ordering) (ho : FloatKind.f64.format.order x y = o) (w : World) : Calls Try.prog 76 #[.float .f64 x, .float .f64 y] w fun e w' => e = .returned (.int .i64 (trO o)) ∧ w = w' := by
  have := orderF_bools x y (o == some .eq) (o == some .lt) (o == some .gt) (by rw [ho]) (by rw [ho]) (by rw [ho]) w
  rcases o with _ | _ | _ | _ <;> exact this
theorem orderF_any (x y : Nat) (hx : x < 18446744073709551616) (hy : y < 18446744073709551616) (w : World) : Calls Try.prog 76 #[.float .f64 x, .float .f64 y] w fun e w' => e = .returned (.int .i64 (trO (ord x y))) ∧ w = w' :=
  orderF_core x y _ (ord_order x y hx hy) w
theorem orderS_any (a b : ByteArray) (w : World) : Calls Try.prog 72 #[.string a, .string b] w fun e w' => e = .returned (.int .i64 (tri (ltS a b) (ltS b a))) ∧ w = w' := by
  have I := bl_irr a.toList b.toList
  have T := bl_tot a.toList b.toList
  unfold ltS
  cases h1 : Op.bytesLess a.toList b.toList
  · cases h2 : (a.toList == b.toList)
    · have h3 : Op.bytesLess b.toList a.toList = true := by
        cases h4 : Op.bytesLess b.toList a.toList
        · have := T h1 h4
          rw [this] at h2
          simp at h2
        · rfl
      rw [h3]
      clear I T
      go_enter Try.func72, Try.ntmps72
      go_wp2_with fail
      go_ret
      exact ⟨rfl, rfl⟩
    · have h3 : Op.bytesLess b.toList a.toList = false := by
        have e : a.toList = b.toList := by simpa using h2
        rw [e] at h1 ⊢
        exact h1
      rw [h3]
      clear I T
      go_enter Try.func72, Try.ntmps72
      go_wp2_with fail
      go_ret
      exact ⟨rfl, rfl⟩
  · have h3 := I h1
    rw [h3]
    clear I T
    go_enter Try.func72, Try.ntmps72
    go_wp2_with fail
    go_ret
    exact ⟨rfl, rfl⟩
def tnI (s : Int) : Int := if s = 2 then 4 else if s = 4 then 2 else s
theorem turned_any (s : Int) (w : World) : Calls Try.prog 75 #[.int .i64 s] w fun e w' => e = .returned (.int .i64 (tnI s)) ∧ w = w' := by
  unfold tnI
  by_cases h1 : s = 2
  · subst h1
    go_enter Try.func75, Try.ntmps75
    go_wp2_with fail
    go_ret
    exact ⟨rfl, rfl⟩
  · rw [if_neg h1]
    by_cases h2 : s = 4
    · subst h2
      go_enter Try.func75, Try.ntmps75
      go_wp2_with fail
      go_ret
      exact ⟨rfl, rfl⟩
    · rw [if_neg h2]
      have d1 : (s == 2) = false := by simpa using h1
      have d2 : (s == 4) = false := by simpa using h2
      clear h1 h2
      go_enter Try.func75, Try.ntmps75
      go_wp2_with fail
      go_ret
      exact ⟨rfl, rfl⟩
theorem kind_any (v : Val) (w : World) : Calls Try.prog 71 #[v.val] w fun e w' => e = .returned (.bool (isK v)) ∧ Below w.heap.size w w' := by
  obtain ⟨k, n, f, s⟩ := v
  unfold Val.val isK
  simp only
  have FIN := Lib.hid ((Below.refl _ w).alloc (Nat.le_refl _) (.cells #[.int .i64 k, .int .i64 n, .float .f64 f, .string s] 47))
  by_cases h1 : k = 1
  · subst h1
    go_enter Try.func71, Try.ntmps71
    go_wp2_with fail
    go_ret
    exact ⟨rfl, FIN.out⟩
  by_cases h2 : k = 2
  · subst h2
    go_enter Try.func71, Try.ntmps71
    go_wp2_with fail
    go_ret
    exact ⟨rfl, FIN.out⟩
  by_cases h3 : k = 3
  · subst h3
    go_enter Try.func71, Try.ntmps71
    go_wp2_with fail
    go_ret
    exact ⟨rfl, FIN.out⟩
  have d1 : (k == 1) = false := by simpa using h1
  have d2 : (k == 2) = false := by simpa using h2
  have d3 : (k == 3) = false := by simpa using h3
  have R := Lib.hid (show false = (decide (k = 1) || decide (k = 2) || decide (k = 3)) by simp [h1, h2, h3])
  clear h1 h2 h3
  go_enter Try.func71, Try.ntmps71
  go_wp2_with fail
  go_ret
  exact ⟨ret_bool R.out, FIN.out⟩
end Go.Proofs.Ytgenefamhhncbaa
