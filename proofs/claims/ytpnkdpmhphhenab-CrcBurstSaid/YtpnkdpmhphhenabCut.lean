/-
  THE WALK OF crc.cut: what stands at the front, as a pack.
-/
import Derived.Test.YtpnkdpmhphhenabPack
import Derived.Lib.QuietBelow
import Derived.BigQuiet
namespace Go.Proofs.Ytpnkdpmhphhenab
open Go.RowKit Go.Sort
theorem mixed : Try.prog.follows .mixedOrders = true := by kernel_rfl
/-- how many bytes the body has, by the first three -/
def len3 (s : ByteArray) : Nat := (s.data.toList.getD 0 0).toNat * 65536 + (s.data.toList.getD 1 0).toNat * 256 + (s.data.toList.getD 2 0).toNat
/-- what stands at the front, as a pack -/
def unp (s : ByteArray) : ByteArray × ByteArray × Int :=
  if s.size < 3 then (⟨#[]⟩, ⟨#[]⟩, 5) else if 1048576 < len3 s then (⟨#[]⟩, ⟨#[]⟩, 2) else if s.size < len3 s + 7 then (⟨#[]⟩, ⟨#[]⟩, 5)
  else if s.extract (len3 s + 3) (len3 s + 7) ≠ footS (s.extract 0 (len3 s + 3)) then (⟨#[]⟩, ⟨#[]⟩, 6)
  else (s.extract 3 (len3 s + 3), s.extract (len3 s + 7) s.size, 0)
def unpV (x : ByteArray × ByteArray × Int) : Value := .tuple #[.string x.1, .string x.2.1, .int .i64 x.2.2]
theorem unp_eq (s : ByteArray) (h : ¬ s.size < 3) : unp s = if 1048576 < len3 s then (⟨#[]⟩, ⟨#[]⟩, 2) else if s.size < len3 s + 7 then (⟨#[]⟩, ⟨#[]⟩, 5)
  else if s.extract (len3 s + 3) (len3 s + 7) ≠ footS (s.extract 0 (len3 s + 3)) then (⟨#[]⟩, ⟨#[]⟩, 6)
  else (s.extract 3 (len3 s + 3), s.extract (len3 s + 7) s.size, 0) := by unfold unp; rw [if_neg h]
theorem len3_eq (s : ByteArray) (h0 : 0 < s.size) (h1 : 1 < s.size) (h2 : 2 < s.size) : len3 s = s[0].toNat * 65536 + s[1].toNat * 256 + s[2].toNat := by
  have e : ∀ i (h : i < s.size), s.data.toList.getD i 0 = s[i] := fun i h => by
    rw [List.getD_eq_getElem?_getD, List.getElem?_eq_getElem (by simpa using h)]; rfl
  unfold len3
  rw [e 0 h0, e 1 h1, e 2 h2]
theorem or3 (a b c : UInt8) : bits .or .i64 (bits .or .i64 ((a.toNat : Int) * 65536) ((b.toNat : Int) * 256)) (c.toNat : Int) = ((a.toNat * 65536 + b.toNat * 256 + c.toNat : Nat) : Int) := by
  have ha := a.toNat_lt
  have hb := b.toNat_lt
  have hc := c.toNat_lt
  have hw : ∀ n : Int, 0 ≤ n → n < 2 ^ 63 → IntKind.i64.wrap n = n := fun n h0 h1 => IntWalk.i64_in n ⟨by omega, by omega⟩
  have e1 : bits .or .i64 ((a.toNat : Int) * 65536) ((b.toNat : Int) * 256) = (a.toNat : Int) * 65536 + (b.toNat : Int) * 256 := bits_join .i64 63 (by decide) hw 16 _ _ (by omega) (by omega) (by omega) (by omega) (by omega) (by omega)
  rw [e1, bits_join .i64 63 (by decide) hw 8 _ _ (by omega) (by omega) (by omega) (by omega) (by omega) (by omega)]
  omega
set_option maxRecDepth 10000 in
set_option maxHeartbeats 1000000 in
theorem cut_any (s : ByteArray) (hs : s.size ≤ 281474976710656) (w : World) :
    Calls Try.prog 20 #[.string s] w fun e w' => e = .returned (unpV (unp s)) ∧ Below w.heap.size w w' := by
  by_cases h3 : s.size < 3
  · have hu : Hid (unp s = (⟨#[]⟩, ⟨#[]⟩, 5)) := by unfold Hid unp; rw [if_pos h3]
    go_enter Try.func20, Try.ntmps20
    go_wp2_with fail
    go_ret3
    exact ⟨by rw [hu.out]; rfl, Below.refl _ _⟩
  · have b0 := s[0].toNat_lt
    have b1 := s[1].toNat_lt
    have b2 := s[2].toNat_lt
    have p0 : (0 : Int) < (s.size : Int) := by omega
    have p1 : (1 : Int) < (s.size : Int) := by omega
    have p2 : (2 : Int) < (s.size : Int) := by omega
    have q0 : 0 < s.size := by omega
    have q1 : 1 < s.size := by omega
    have q2 : 2 < s.size := by omega
    have hor := or3 s[0] s[1] s[2]
    rw [← len3_eq s q0 q1 q2] at hor
    have hu := Lib.hid (unp_eq s h3)
    generalize len3 s = L at *
    by_cases h4 : 1048576 < L
    · have hu2 := hu.out
      rw [if_pos h4] at hu2
      have Hu := Lib.hid hu2
      clear hu2 hu
      go_enter Try.func20, Try.ntmps20
      go_wp2_with fail
      go_quiet (fail)
      go_wp2_with fail
      go_ret3
      exact ⟨by rw [Hu.out]; rfl, below_drewN (Below.refl _ _) _⟩
    by_cases h5 : s.size < L + 7
    · have hu2 := hu.out
      rw [if_neg h4, if_pos h5] at hu2
      have Hu := Lib.hid hu2
      clear hu2 hu
      go_enter Try.func20, Try.ntmps20
      go_wp2_with fail
      go_quiet (fail)
      go_wp2_with fail
      go_ret3
      exact ⟨by rw [Hu.out]; rfl, below_drewN (Below.refl _ _) _⟩
    · go_enter Try.func20, Try.ntmps20
      go_wp2_with fail
      go_quiet (fail)
      go_wp2_with fail
      have b1 : Below w.heap.size w (w.drewN nq) := below_drewN (Below.refl _ _) _
      generalize w.drewN nq = w1 at *
      have hF := foot_any (s.extract 0 (3 + L)) (by simp; omega)
      have cF : ∀ d os, Calls Try.prog 19 #[.string (s.extract 0 (3 + L))] (grow (redrawn w1 d) os) fun e w'' => e = .returned (.string (footS (s.extract 0 (3 + L)))) ∧ ∃ p : Regrown, w'' = grow (redrawn w1 p.d) p.os := fun d os => Calls.regrown_of (hF _)
      clear hF
      have CF := Lib.hid cF
      clear cF
      have l1 : IntKind.i64.wrap (3 + (L : Int) + 4) = 3 + (L : Int) + 4 := IntWalk.i64_in _ ⟨by omega, by omega⟩
      have l2 : (0 : Int) ≤ 3 + (L : Int) + 4 := by omega
      have l3 : (3 + (L : Int) + 4).toNat = 3 + L + 4 := by omega
      have l4 : (0 : Int) ≤ 3 + (L : Int) := by omega
      have l5 : (3 + (L : Int)).toNat = 3 + L := by omega
      have l6 : 3 + (L : Int) ≤ 3 + (L : Int) + 4 := by omega
      have l7 : 3 + (L : Int) ≤ (s.size : Int) := by omega
      have l8 : 3 + L + 4 ≤ s.size := by omega
      have l9 : 3 + L ≤ s.size := by omega
      refine wp_region_quiet_below mixed (by kernel_rfl) ?_
      repeat (quiet_step (exact CF.out _ _))
      refine wpQuiet_nil ?_
      intro _ hw'
      obtain ⟨⟨dq, osq⟩, hw''⟩ := hw'
      subst hw''
      have b2 : Below w.heap.size w (grow (redrawn w1 dq) osq) := b1.trans ((below_regrown w1 dq osq).mono b1.size)
      generalize grow (redrawn w1 dq) osq = w2 at *
      have hu2 := hu.out
      rw [if_neg h4, if_neg h5, Nat.add_comm L 3, show L + 7 = 3 + L + 4 from by omega] at hu2
      by_cases h6 : s.extract (3 + L) (3 + L + 4) = footS (s.extract 0 (3 + L))
      · have h7 : (!((s.extract (3 + L) (3 + L + 4)).toList == (footS (s.extract 0 (3 + L))).toList)) = false := by rw [h6]; simp
        rw [h7]
        clear h7
        rw [if_neg (by simpa using h6)] at hu2
        have Hu := Lib.hid hu2
        clear hu2 hu h6
        go_wp2_with fail
        go_quiet (fail)
        go_wp2_with fail
        go_ret3
        exact ⟨by rw [Hu.out]; rfl, below_drewN b2 _⟩
      · have h7 : (!((s.extract (3 + L) (3 + L + 4)).toList == (footS (s.extract 0 (3 + L))).toList)) = true := by
          rw [Bool.not_eq_true', beq_eq_false_iff_ne]
          intro he
          exact h6 (ByteArray.ext (Array.toList_inj.1 (by rw [← Lib.toList_data, ← Lib.toList_data, he])))
        rw [h7]
        clear h7
        rw [if_pos (by simpa using h6)] at hu2
        have Hu := Lib.hid hu2
        clear hu2 hu h6
        go_wp2_with fail
        go_ret3
        exact ⟨by rw [Hu.out]; rfl, b2⟩
end Go.Proofs.Ytpnkdpmhphhenab
