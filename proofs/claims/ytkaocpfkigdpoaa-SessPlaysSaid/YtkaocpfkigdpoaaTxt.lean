/-
  A TABLE's TEXT.
-/
import Derived.Test.YtkaocpfkigdpoaaOps
import Derived.Test.YtkaocpfkigdpoaaBOne
namespace Go.Proofs.Ytkaocpfkigdpoaa
open Go.RowKit
theorem mixedE : Try.prog.follows .mixedOrders = true := by kernel_rfl
theorem ba_assoc (a b c : ByteArray) : a ++ b ++ c = a ++ (b ++ c) := ByteArray.append_assoc
theorem ba_nil (a : ByteArray) : a ++ ⟨#[]⟩ = a := by apply ByteArray.ext; simp
theorem ba_nil_l (a : ByteArray) : (⟨#[]⟩ : ByteArray) ++ a = a := by apply ByteArray.ext; simp
theorem ba_size (a b : ByteArray) : (a ++ b).size = a.size + b.size := ByteArray.size_append
def pairS (x : Sn) : ByteArray := Bt.numS x.1 ++ Bt.numS x.2
def bodS : List Sn → ByteArray
  | [] => ⟨#[]⟩
  | x :: r => pairS x ++ bodS r
def txtS (L : List Sn) : ByteArray := Bt.numS (L.length : Int) ++ bodS L
theorem bodS_app (l r : List Sn) : bodS (l ++ r) = bodS l ++ bodS r := by
  induction l with
  | nil => exact (ba_nil_l _).symm
  | cons x l ih => rw [List.cons_append]; show pairS x ++ bodS (l ++ r) = _; rw [ih, ← ba_assoc]; rfl
theorem bodS_take {L : List Sn} {j : Nat} (h : j < L.length) : bodS (L.take (j + 1)) = bodS (L.take j) ++ pairS L[j] := by
  rw [List.take_succ_eq_append_getElem h, bodS_app]
  congr 1
  exact ba_nil _
theorem pairS_size (x : Sn) : (pairS x).size ≤ 18 := by
  have := Bt.numS_size x.1
  have := Bt.numS_size x.2
  unfold pairS
  rw [ba_size]; omega
theorem bodS_size (L : List Sn) : (bodS L).size ≤ 18 * L.length := by
  induction L with
  | nil => exact Nat.zero_le _
  | cons x r ih =>
    have := pairS_size x
    show (pairS x ++ bodS r).size ≤ _
    rw [ba_size, List.length_cons]; omega
set_option maxHeartbeats 4000000 in
set_option maxRecDepth 100000 in
/-- the walk over what All answers -/
theorem text_core {p : Option Addr} {L : List Sn} (w : World) (h : Hid (Calls Try.prog 22 #[.pointer p] w (Cle w L))) (hl : L.length ≤ 1000) (hb : ∀ x ∈ L, (0 ≤ x.1 ∧ x.1 < 18446744073709551616) ∧ 0 ≤ x.2 ∧ x.2 < 18446744073709551616) :
    Calls Try.prog 19 #[.pointer p] w fun e w' => e = .returned (.string (txtS L)) ∧ Below w.heap.size w w' := by
  have HB := Lib.hid hb
  have NL := Lib.hid (fun w => Bt.num_any (L.length : Int) (by omega) (by omega) w)
  have zL := Bt.numS_size (L.length : Int)
  have RE : Hid (txtS L = Bt.numS (L.length : Int) ++ bodS (L.take L.length)) := Lib.hid (by rw [List.take_of_length_le (Nat.le_refl _)]; rfl)
  have hl2 : (L.length : Int) ≤ 1000 := by omega
  have u0 : IntKind.u64.wrap (L.length : Int) = (L.length : Int) := IntWalk.u64_in _ (by omega)
  generalize Bt.numS (L.length : Int) = H at *
  generalize txtS L = E at *
  clear hb
  go_enter Try.func19, Try.ntmps19
  go_wp2_with fail
  refine h.out.mono ?_
  rintro e w1 ⟨v1, rfl, o1, b1⟩
  obtain ⟨a, c, hv, hc1, hc2⟩ := o1.form
  have O1 := Lib.hid o1
  have B1 := Lib.hid b1
  subst hv
  clear o1 b1
  go_wp2_with fail
  refine (NL.out _).mono ?_
  rintro e w2 ⟨rfl, b2⟩
  have O2 := Lib.hid (O1.out.next b2)
  have B2 := Lib.hid (B1.out.trans (b2.mono B1.out.size))
  clear b2 O1 B1
  go_wp2_with fail
  go_loopw [15, 4] (fun i s wq => ∃ (j : Nat) (S : ByteArray), i = .int .i64 j ∧ s = .string S ∧ j ≤ L.length ∧ Hid (S = H ++ bodS (L.take j)) ∧ Hid (Below w.heap.size w wq) ∧ Hid (Own wq w.heap.size (.slice a L.length c) L)) (fun i _ _ => L.length - (intOf i).toNat)
  case atStart => exact ⟨0, H, rfl, rfl, Nat.zero_le _, Lib.hid (ba_nil H).symm, B2, O2⟩
  case round =>
    obtain ⟨j, S, rfl, rfl, hj, hS, hB, hO⟩ := hrel
    by_cases hjn : j < L.length
    · obtain ⟨g, c', hv, -, -, f0, f1, -⟩ := hO.out.at_ hjn
      injection hv with e1 e2 e3
      subst e1; subst e3
      have FT := Lib.hid (bodS_take hjn)
      have FS : S.size ≤ 20000 := by
        have h1 := bodS_size (L.take j)
        rw [List.length_take] at h1
        rw [hS.out, ba_size]; omega
      obtain ⟨⟨p1, p2⟩, p3, p4⟩ := HB.out L[j] (List.getElem_mem hjn)
      have NX := Lib.hid (fun W => Bt.num_any L[j].1 p1 p2 W)
      have NY := Lib.hid (fun W => Bt.num_any L[j].2 p3 p4 W)
      have y1 := Bt.numS_size L[j].1
      have y2 := Bt.numS_size L[j].2
      have NR : Hid (∀ T M : ByteArray, T = Bt.numS L[j].1 → M = Bt.numS L[j].2 → S ++ (T ++ M) = H ++ bodS (L.take (j + 1))) := Lib.hid (by
        rintro T M rfl rfl
        rw [FT.out, hS.out, ba_assoc H]
        rfl)
      obtain ⟨T, hT⟩ : ∃ A, Bt.numS L[j].1 = A := ⟨_, rfl⟩
      obtain ⟨M, hM⟩ : ∃ A, Bt.numS L[j].2 = A := ⟨_, rfl⟩
      have NS := Lib.hid (NR.out T M hT.symm hM.symm)
      rw [hT] at NX y1
      rw [hM] at NY y2
      clear NR hT hM FT
      have hjI : (j : Int) < (L.length : Int) := by omega
      generalize L[j] = x at *
      obtain ⟨x1, x2⟩ := x
      simp only at f0 f1 p1 p2 p3 p4 NX NY
      obtain ⟨w5, hw5⟩ : ∃ w5, w5 = wr.alloc (.cells #[.int .i64 x1, .int .i64 x2] 62) := ⟨_, rfl⟩
      have N5 : Blk w5 wr.heap.size 62 #[.int .i64 x1, .int .i64 x2] := by rw [hw5]; exact Blk.new _ _ _
      have B5 : Below wr.heap.size wr w5 := by rw [hw5]; exact (Below.refl _ wr).alloc (Nat.le_refl _) _
      have W5 := Lib.hid hw5
      have B5h := Lib.hid (hB.out.trans (B5.mono hB.out.size))
      have O5h := Lib.hid (hO.out.next B5)
      have n0 : w5.cell? ⟨wr.heap.size, 0, none⟩ = some (.int .i64 x1) := N5.cell 0
      have n1 : w5.cell? ⟨wr.heap.size, 1, none⟩ = some (.int .i64 x2) := N5.cell 1
      clear hw5 B5 N5
      go_wp2_with fail
      rw [← W5.out]
      have x0 := fun d os => cell_regrown n0 d os
      have x1' := fun d os => cell_regrown n1 d os
      have C1 := Lib.hid (fun d os => Calls.regrown_of (d := d) (os := os) (NX.out (Go.Sort.grow (redrawn w5 d) os)))
      have C2 := Lib.hid (fun d os => Calls.regrown_of (d := d) (os := os) (NY.out (Go.Sort.grow (redrawn w5 d) os)))
      have u1 : IntKind.u64.wrap x1 = x1 := IntWalk.u64_in _ (by omega)
      have u2 : IntKind.u64.wrap x2 = x2 := IntWalk.u64_in _ (by omega)
      have q1 : ¬ (9223372036854775807 < T.size + M.size) := by omega
      have q2 : ¬ (9223372036854775807 < S.size + (T.size + M.size)) := by omega
      refine wp_region_quiet_below mixedE (by kernel_rfl) ?_
      repeat (quiet_step (first | (with_reducible exact C1.out _ _) | (with_reducible exact C2.out _ _)))
      refine wpQuiet_nil ?_
      intro _ hw'
      obtain ⟨⟨dq, osq⟩, hw''⟩ := hw'
      subst hw''
      have b6 := below_regrown w5 dq osq
      have B6h := Lib.hid (B5h.out.trans (b6.mono B5h.out.size))
      have O6h := Lib.hid (O5h.out.next b6)
      clear b6 x0 x1' n0 n1 C1 C2 u1 u2 q1 q2 f0 f1
      generalize Go.Sort.grow (redrawn w5 dq) osq = w6 at *
      go_wp2_with fail
      go_roundw
      case rel => exact ⟨j + 1, _, by go_num, rfl, by omega, NS, B6h, O6h⟩
      case measure => simp [intOf]; omega
    · obtain rfl : j = L.length := by omega
      obtain rfl : S = E := hS.out.trans RE.out.symm
      have BB := hB.out
      clear hB hO hS
      go_wp2_with fail
      go_ret
      exact ⟨rfl, BB⟩
theorem text_any {w : World} {t : Nat} {v : Value} {L : List Sn} (h : Tab w t v L) (ok : Okt L) : Calls Try.prog 19 #[.pointer (some ⟨t, 0, none⟩)] w fun e w' => e = .returned (.string (txtS L)) ∧ Below w.heap.size w w' := by
  have := ok.n
  exact text_core w (Lib.hid (all_any h (by omega))) (by omega) fun x hx => by
    have := ok.id0 x hx
    have := ok.idM x hx
    have := ok.q0 x hx
    have := ok.qM x hx
    exact ⟨⟨by omega, by omega⟩, by omega, by omega⟩
theorem text_nil (w : World) : Calls Try.prog 19 #[.pointer none] w fun e w' => e = .returned (.string (txtS [])) ∧ Below w.heap.size w w' :=
  text_core w (Lib.hid ((all_nil w).mono fun e w' ⟨he, hw⟩ => ⟨_, he, by subst hw; exact World.ownsRow_nil _ _ _ _, by subst hw; exact Below.refl _ _⟩)) (by simp) (by simp)
end Go.Proofs.Ytkaocpfkigdpoaa
