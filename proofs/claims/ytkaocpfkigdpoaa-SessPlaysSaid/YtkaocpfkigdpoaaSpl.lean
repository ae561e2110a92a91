/-
  The law of SessPlays as a walk (written by wip/tools/gen_spl.py).
-/
import Derived.Test.YtkaocpfkigdpoaaPla3
import Derived.Deep.RegionHeld3
namespace Go.Proofs.Ytkaocpfkigdpoaa
open Go.RowKit
theorem Okt.bdx {L : List Sn} (ok : Okt L) : ∀ x ∈ L, (0 ≤ x.1 ∧ x.1 < 18446744073709551616) ∧ 0 ≤ x.2 ∧ x.2 < 18446744073709551616 := fun x hx => by
  have := ok.id0 x hx
  have := ok.idM x hx
  have := ok.q0 x hx
  have := ok.qM x hx
  exact ⟨⟨by omega, by omega⟩, by omega, by omega⟩
theorem same_yes {w : World} {v u : Value} {L : List Sn} (h : Ses w v L) (k : Ses w u L) (hl : L.length ≤ 1000) : Calls Try.prog 20 #[v, u] w fun e w' => e = .returned (.bool true) ∧ Below w.heap.size w w' :=
  (same_any h k hl hl).mono fun e w' ⟨he, b⟩ => ⟨by rw [he, decide_eq_true rfl], b⟩
theorem txtS_size (L : List Sn) : (txtS L).size ≤ 9 + 18 * L.length := by
  have h1 := Bt.numS_size (L.length : Int)
  have h2 := bodS_size L
  unfold txtS
  rw [ba_size]; omega
set_option maxHeartbeats 4000000 in
set_option maxRecDepth 100000 in
theorem plays_law (s : Option Addr) (c : Nat) (xs : List It) (w : World) (hl : xs.length ≤ 9223372036854775807) (hx : Its w s xs) :
    Calls Try.prog 3 #[.slice s xs.length c] w fun e w' => e = .returned (.bool true) ∧ Below w.heap.size w w' := by
  have XX := Lib.hid hx
  have AW := Lib.hid awake_any
  have hlI : (xs.length : Int) ≤ 9223372036854775807 := by omega
  clear hx
  go_enter Try.func3, Try.ntmps3
  go_wp2_with fail
  refine (new_any _).mono ?_
  rintro e w1 ⟨rfl, T1, b1⟩
  have P0 := Lib.hid (pl_new w w1 T1 b1)
  clear T1 b1
  go_wp2_with fail
  refine (AW.out _).mono ?_
  rintro e w2 ⟨rfl, b2⟩
  have P2 := Lib.hid (P0.out.next b2)
  clear P0 b2
  generalize w1.heap.size = B at *
  go_wp2_with fail
  go_loopw [5, 3] (fun i t wq => ∃ (k : Nat) (T : Nat) (L : List Sn) (v u : Value), i = .int .i64 k ∧ t = .pointer (some ⟨T, 0, none⟩) ∧ k ≤ xs.length ∧ k ≤ 200 ∧ Hid (Pl w wq T B L L v u)) (fun i _ _ => xs.length - (intOf i).toNat)
  case atStart => exact ⟨0, w.heap.size, [], _, _, rfl, rfl, Nat.zero_le _, Nat.zero_le _, P2⟩
  case round =>
    obtain ⟨k, T, L, v, u, rfl, rfl, hk, hk2, P⟩ := hrel
    by_cases hlt : k < xs.length
    rotate_left
    · have hkI : ¬ (k : Int) < (xs.length : Int) := by omega
      have hkB : decide ((k : Int) < (xs.length : Int)) = false := decide_eq_false hkI
      have F := Lib.hid P.out.bel
      clear P
      go_wp2_with fail
      go_ret
      exact ⟨rfl, F.out⟩
    have hkI : (k : Int) < (xs.length : Int) := by omega
    by_cases h200 : k < 200
    rotate_left
    · have h200B : decide ((k : Int) < 200) = false := decide_eq_false (by omega)
      have F := Lib.hid P.out.bel
      clear P
      go_wp2_with fail
      go_ret
      exact ⟨rfl, F.out⟩
    have h200I : (k : Int) < 200 := by omega
    have h200B : decide ((k : Int) < 200) = true := decide_eq_true h200I
    have HK := Lib.hid (show k + 1 ≤ xs.length ∧ k + 1 ≤ 200 by omega)
    obtain ⟨g, o, rfl, hg, c0, c1, c2⟩ := XX.out k hlt
    rw [← P.out.bel.cell (p := ⟨g, _, none⟩) hg] at c0 c1 c2
    generalize xs[k] = x at *
    obtain ⟨x0, x1, x2⟩ := x
    simp only at c0 c1 c2
    obtain ⟨W3, hW3⟩ : ∃ W3, W3 = wr.alloc (.cells #[.int .i64 x0, .int .i64 x1, .int .i64 x2] 30) := ⟨_, rfl⟩
    have PX : Hid (Px w W3 T B L L v u wr.heap.size ⟨x0, x1, x2⟩) := Lib.hid (by
      have ba := (Below.refl wr.heap.size wr).alloc (Nat.le_refl _) (.cells #[.int .i64 x0, .int .i64 x1, .int .i64 x2] 30)
      have t1 := P.out.tab.blk.lt
      have t2 := P.out.blk.lt
      rw [hW3]
      exact ⟨P.out.next ba, Blk.new _ _ _, by omega, by omega, fun e => by have := (own_ne P.out.tab.own _ e).2; omega⟩)
    have HW := Lib.hid hW3
    have cB : wr.cell? ⟨B, 0, none⟩ = some u := P.out.blk.cell 0
    have lB : B < wr.heap.size := P.out.blk.lt
    obtain ⟨au0, cu0, hu0, -⟩ := P.out.ses
    clear hW3 P hlt h200 hk hk2
    subst hu0
    generalize hX : wr.heap.size = X at *
    by_cases k0 : x0 = 0
    · subst k0
      have RO := Lib.hid (ropen_any x1 PX.out.pl.ses PX.out.pl.okr)
      go_wp2_with (go_at_call 11; rw [← HW.out]; refine RO.out.mono ?_; rintro e w4 ⟨u4, rfl, s4, b4, n4⟩; have P4 := Lib.hid (PX.out.next b4); have P5 := Lib.hid (PX.out.ref s4 b4 n4 (ok_op PX.out.pl.okr)); obtain ⟨a4, d4, hv4, -⟩ := s4; clear b4 n4; have x1c : w4.cell? ⟨X, 1, none⟩ = some (.int .i64 x1) := P4.out.xb.cell 1; have x2c : w4.cell? ⟨X, 2, none⟩ = some (.int .i64 x2) := P4.out.xb.cell 2; have xbc : w4.cell? ⟨B, 0, none⟩ = some (.slice au0 L.length cu0) := P4.out.pl.blk.cell 0; have xbf := P4.out.pl.blk.free 0; have xne : ¬ X = B := P4.out.xB; have xne2 : ¬ B = X := fun e => P4.out.xB e.symm; have xlt : X < w4.heap.size := P4.out.xb.lt; have blt : B < w4.heap.size := P4.out.pl.blk.lt; generalize (opT x1 L).1.length = m4 at hv4; subst hv4)
      refine ((P5.out.tch (open_any x1 P5.out.pl.tab P5.out.pl.ok) (ok_op P5.out.pl.ok)).mono ?_)
      rintro e w6 ⟨v9, rfl, p6⟩
      have p6 := Lib.hid p6.pl
      clear x1c x2c xbc xbf xne xne2 xlt blt P4 P5 PX RO HW cB c0 c1 c2
      generalize (opT x1 L).1 = Z at *
      generalize (opT x1 L).2 = E at *
      generalize Value.slice a4 m4 d4 = u9 at *
      have hz : Z.length ≤ 1000 := by have := p6.out.ok.n; omega
      have HZ := Lib.hid p6.out.ok
      have HBd := Lib.hid HZ.out.bdx
      obtain ⟨au, cu, hu, -⟩ := p6.out.ses
      have PD := Lib.hid (show Pl w w6.drew T B Z Z v9 u9 from p6.out.next (Below.refl _ _).drew)
      have cz : w6.cell? ⟨B, 0, none⟩ = some u9 := p6.out.blk.cell 0
      have S1 : w6.drew.cell? ⟨B, 0, none⟩ = some u9 := cz
      clear p6
      subst hu
      go_wp2_with fail
      clear cz
      go_region_held3 (fun w' => w'.cell? ⟨B, 0, none⟩ = some (.slice au Z.length cu))
        (first | exact S1 | assumption)
        (first
          | (go_at_call 22; refine (all_any PD.out.tab hz).mono ?_; rintro e wa ⟨va, rfl, oa, ba⟩; have Pa := Lib.hid (PD.out.next ba); have sa := Lib.hid oa.ses; have ca : wa.cell? ⟨B, 0, none⟩ = some (.slice au Z.length cu) := Pa.out.blk.cell 0; clear oa)
          | (go_at_call 21; refine (refs_any sa.out hz).mono ?_; rintro e wb ⟨vb, rfl, ob, bb⟩; have Pb := Lib.hid (Pa.out.next bb); have sb := Lib.hid ob.ses; have cb : wb.cell? ⟨B, 0, none⟩ = some (.slice au Z.length cu) := Pb.out.blk.cell 0; clear ob)
          | (go_at_call 20; refine (same_yes sb.out Pb.out.ses hz).mono ?_; rintro e wc ⟨rfl, bc⟩; have Pc := Lib.hid (Pb.out.next bc); have cc : wc.cell? ⟨B, 0, none⟩ = some (.slice au Z.length cu) := Pc.out.blk.cell 0)
          | (go_at_call 19; refine (text_any Pc.out.tab HZ.out).mono ?_; rintro e wd ⟨rfl, bd⟩; have Pd := Lib.hid (Pc.out.next bd); have cd : wd.cell? ⟨B, 0, none⟩ = some (.slice au Z.length cu) := Pd.out.blk.cell 0)
          | (go_at_call 23; refine (rtext_any Pd.out.ses hz HBd.out).mono ?_; rintro e we ⟨rfl, be⟩; have Pe := Lib.hid (Pd.out.next be); have ce : we.cell? ⟨B, 0, none⟩ = some (.slice au Z.length cu) := Pe.out.blk.cell 0))
      all_goals
        clear S1
        go_wp2_with fail
        go_roundw
        case rel => exact ⟨k + 1, T, Z, _, _, by go_num, rfl, HK.out.1, HK.out.2, Pe⟩
        case measure => have h9 := HK.out.1; simp [intOf]; omega
    by_cases k1 : x0 = 1
    · subst k1
      clear k0
      have MY := Lib.hid (may_any x1 x2 PX.out.pl.tab PX.out.pl.ok)
      go_wp2_with (go_at_call 13; rw [← HW.out]; refine MY.out.mono ?_; rintro e w4 ⟨rfl, b4⟩; have P4 := Lib.hid (PX.out.next b4); clear b4; have x1c : w4.cell? ⟨X, 1, none⟩ = some (.int .i64 x1) := P4.out.xb.cell 1; have x2c : w4.cell? ⟨X, 2, none⟩ = some (.int .i64 x2) := P4.out.xb.cell 2; have xbc : w4.cell? ⟨B, 0, none⟩ = some (.slice au0 L.length cu0) := P4.out.pl.blk.cell 0; have xbf := P4.out.pl.blk.free 0; have xne : ¬ X = B := P4.out.xB; have xne2 : ¬ B = X := fun e => P4.out.xB e.symm; have xlt : X < w4.heap.size := P4.out.xb.lt; have blt : B < w4.heap.size := P4.out.pl.blk.lt)
      refine ((P4.out.tch (take_any x1 x2 P4.out.pl.tab P4.out.pl.ok) (ok_tk P4.out.pl.ok)).mono ?_)
      rintro e w5 ⟨v9, rfl, p5⟩
      have P5 := Lib.hid p5
      clear x1c x2c xbc xbf xlt blt p5
      have RT := Lib.hid (rtake_any x1 x2 P5.out.pl.ses P5.out.pl.okr)
      have x1c : w5.cell? ⟨X, 1, none⟩ = some (.int .i64 x1) := P5.out.xb.cell 1
      have x2c : w5.cell? ⟨X, 2, none⟩ = some (.int .i64 x2) := P5.out.xb.cell 2
      have xbc : w5.cell? ⟨B, 0, none⟩ = some (.slice au0 L.length cu0) := P5.out.pl.blk.cell 0
      have xbf := P5.out.pl.blk.free 0
      have xne : ¬ X = B := P5.out.xB
      have xne2 : ¬ B = X := fun e => P5.out.xB e.symm
      have xlt : X < w5.heap.size := P5.out.xb.lt
      have blt : B < w5.heap.size := P5.out.pl.blk.lt
      go_wp2_with (go_at_call 15; refine RT.out.mono ?_; rintro e w6 ⟨u6, rfl, s6, b6, n6⟩; have P6 := Lib.hid (P5.out.next b6); have P7 := Lib.hid (P5.out.ref s6 b6 n6 (ok_tk P5.out.pl.okr)).pl; obtain ⟨a6, d6, hv6, -⟩ := s6; clear b6 n6; have ybc : w6.cell? ⟨B, 0, none⟩ = some (.slice au0 L.length cu0) := P6.out.pl.blk.cell 0; have ybf := P6.out.pl.blk.free 0; generalize (tkT x1 x2 L).length = m6 at hv6; subst hv6)
      clear x1c x2c xbc xbf xne xne2 xlt blt ybc ybf P4 P5 P6 PX MY RT HW cB c0 c1 c2
      generalize tkT x1 x2 L = Z at *
      generalize (mayT x1 x2 L).1 = D at *
      generalize (mayT x1 x2 L).2 = E at *
      generalize Value.slice a6 m6 d6 = u9 at *
      generalize w6.setCell ⟨B, 0, none⟩ u9 = w8 at *
      have hz : Z.length ≤ 1000 := by have := P7.out.ok.n; omega
      have HZ := Lib.hid P7.out.ok
      have HBd := Lib.hid HZ.out.bdx
      obtain ⟨au, cu, hu, -⟩ := P7.out.ses
      have PD := Lib.hid (show Pl w w8.drew T B Z Z v9 u9 from P7.out.next (Below.refl _ _).drew)
      have cz : w8.cell? ⟨B, 0, none⟩ = some u9 := P7.out.blk.cell 0
      have S1 : w8.drew.cell? ⟨B, 0, none⟩ = some u9 := cz
      clear P7
      subst hu
      go_wp2_with fail
      clear cz
      go_region_held3 (fun w' => w'.cell? ⟨B, 0, none⟩ = some (.slice au Z.length cu))
        (first | exact S1 | assumption)
        (first
          | (go_at_call 22; refine (all_any PD.out.tab hz).mono ?_; rintro e wa ⟨va, rfl, oa, ba⟩; have Pa := Lib.hid (PD.out.next ba); have sa := Lib.hid oa.ses; have ca : wa.cell? ⟨B, 0, none⟩ = some (.slice au Z.length cu) := Pa.out.blk.cell 0; clear oa)
          | (go_at_call 21; refine (refs_any sa.out hz).mono ?_; rintro e wb ⟨vb, rfl, ob, bb⟩; have Pb := Lib.hid (Pa.out.next bb); have sb := Lib.hid ob.ses; have cb : wb.cell? ⟨B, 0, none⟩ = some (.slice au Z.length cu) := Pb.out.blk.cell 0; clear ob)
          | (go_at_call 20; refine (same_yes sb.out Pb.out.ses hz).mono ?_; rintro e wc ⟨rfl, bc⟩; have Pc := Lib.hid (Pb.out.next bc); have cc : wc.cell? ⟨B, 0, none⟩ = some (.slice au Z.length cu) := Pc.out.blk.cell 0)
          | (go_at_call 19; refine (text_any Pc.out.tab HZ.out).mono ?_; rintro e wd ⟨rfl, bd⟩; have Pd := Lib.hid (Pc.out.next bd); have cd : wd.cell? ⟨B, 0, none⟩ = some (.slice au Z.length cu) := Pd.out.blk.cell 0)
          | (go_at_call 23; refine (rtext_any Pd.out.ses hz HBd.out).mono ?_; rintro e we ⟨rfl, be⟩; have Pe := Lib.hid (Pd.out.next be); have ce : we.cell? ⟨B, 0, none⟩ = some (.slice au Z.length cu) := Pe.out.blk.cell 0))
      all_goals
        clear S1
        go_wp2_with fail
        go_roundw
        case rel => exact ⟨k + 1, T, Z, _, _, by go_num, rfl, HK.out.1, HK.out.2, Pe⟩
        case measure => have h9 := HK.out.1; simp [intOf]; omega
    by_cases k2 : x0 = 2
    · subst k2
      clear k0 k1
      have RC := Lib.hid (rclose_any x1 PX.out.pl.ses PX.out.pl.okr)
      go_wp2_with (go_at_call 16; rw [← HW.out]; refine RC.out.mono ?_; rintro e w4 ⟨u4, rfl, s4, b4, n4⟩; have P4 := Lib.hid (PX.out.next b4); have P5 := Lib.hid (PX.out.ref s4 b4 n4 (ok_cl PX.out.pl.okr)); obtain ⟨a4, d4, hv4, -⟩ := s4; clear b4 n4; have x1c : w4.cell? ⟨X, 1, none⟩ = some (.int .i64 x1) := P4.out.xb.cell 1; have x2c : w4.cell? ⟨X, 2, none⟩ = some (.int .i64 x2) := P4.out.xb.cell 2; have xbc : w4.cell? ⟨B, 0, none⟩ = some (.slice au0 L.length cu0) := P4.out.pl.blk.cell 0; have xbf := P4.out.pl.blk.free 0; have xne : ¬ X = B := P4.out.xB; have xne2 : ¬ B = X := fun e => P4.out.xB e.symm; have xlt : X < w4.heap.size := P4.out.xb.lt; have blt : B < w4.heap.size := P4.out.pl.blk.lt; generalize (clT x1 L).1.length = m4 at hv4; subst hv4)
      refine ((P5.out.tch (close_any x1 P5.out.pl.tab P5.out.pl.ok) (ok_cl P5.out.pl.ok)).mono ?_)
      rintro e w6 ⟨v9, rfl, p6⟩
      have p6 := Lib.hid p6.pl
      clear x1c x2c xbc xbf xne xne2 xlt blt P4 P5 PX RC HW cB c0 c1 c2
      generalize (clT x1 L).1 = Z at *
      generalize (clT x1 L).2 = E at *
      generalize Value.slice a4 m4 d4 = u9 at *
      have hz : Z.length ≤ 1000 := by have := p6.out.ok.n; omega
      have HZ := Lib.hid p6.out.ok
      have HBd := Lib.hid HZ.out.bdx
      obtain ⟨au, cu, hu, -⟩ := p6.out.ses
      have PD := Lib.hid (show Pl w w6.drew T B Z Z v9 u9 from p6.out.next (Below.refl _ _).drew)
      have cz : w6.cell? ⟨B, 0, none⟩ = some u9 := p6.out.blk.cell 0
      have S1 : w6.drew.cell? ⟨B, 0, none⟩ = some u9 := cz
      clear p6
      subst hu
      go_wp2_with fail
      clear cz
      go_region_held3 (fun w' => w'.cell? ⟨B, 0, none⟩ = some (.slice au Z.length cu))
        (first | exact S1 | assumption)
        (first
          | (go_at_call 22; refine (all_any PD.out.tab hz).mono ?_; rintro e wa ⟨va, rfl, oa, ba⟩; have Pa := Lib.hid (PD.out.next ba); have sa := Lib.hid oa.ses; have ca : wa.cell? ⟨B, 0, none⟩ = some (.slice au Z.length cu) := Pa.out.blk.cell 0; clear oa)
          | (go_at_call 21; refine (refs_any sa.out hz).mono ?_; rintro e wb ⟨vb, rfl, ob, bb⟩; have Pb := Lib.hid (Pa.out.next bb); have sb := Lib.hid ob.ses; have cb : wb.cell? ⟨B, 0, none⟩ = some (.slice au Z.length cu) := Pb.out.blk.cell 0; clear ob)
          | (go_at_call 20; refine (same_yes sb.out Pb.out.ses hz).mono ?_; rintro e wc ⟨rfl, bc⟩; have Pc := Lib.hid (Pb.out.next bc); have cc : wc.cell? ⟨B, 0, none⟩ = some (.slice au Z.length cu) := Pc.out.blk.cell 0)
          | (go_at_call 19; refine (text_any Pc.out.tab HZ.out).mono ?_; rintro e wd ⟨rfl, bd⟩; have Pd := Lib.hid (Pc.out.next bd); have cd : wd.cell? ⟨B, 0, none⟩ = some (.slice au Z.length cu) := Pd.out.blk.cell 0)
          | (go_at_call 23; refine (rtext_any Pd.out.ses hz HBd.out).mono ?_; rintro e we ⟨rfl, be⟩; have Pe := Lib.hid (Pd.out.next be); have ce : we.cell? ⟨B, 0, none⟩ = some (.slice au Z.length cu) := Pe.out.blk.cell 0))
      all_goals
        clear S1
        go_wp2_with fail
        go_roundw
        case rel => exact ⟨k + 1, T, Z, _, _, by go_num, rfl, HK.out.1, HK.out.2, Pe⟩
        case measure => have h9 := HK.out.1; simp [intOf]; omega
    by_cases k3 : x0 = 3
    · subst k3
      clear k0 k1 k2
      have TX := Lib.hid (text_any PX.out.pl.tab PX.out.pl.ok)
      have RD := Lib.hid (fun W => read_any (txtS L) (by have := txtS_size L; have := PX.out.pl.ok.n; omega) W)
      rw [rdT_of PX.out.pl.ok] at RD
      go_wp2_with (first
        | (go_at_call 19; rw [← HW.out]; refine TX.out.mono ?_; rintro e w4 ⟨rfl, b4⟩; have P4 := Lib.hid (PX.out.pl.next b4); clear b4)
        | (go_at_call 18; refine (RD.out _).mono ?_; rintro e w6 ⟨T9, v9, rfl, hT9, t9, b9⟩; have p6 := Lib.hid (P4.out.new t9 b9 hT9); clear t9 b9 hT9))
      clear P4 PX TX RD HW cB c0 c1 c2
      generalize Value.slice au0 L.length cu0 = u9 at *
      have hz : L.length ≤ 1000 := by have := p6.out.ok.n; omega
      have HZ := Lib.hid p6.out.ok
      have HBd := Lib.hid HZ.out.bdx
      obtain ⟨au, cu, hu, -⟩ := p6.out.ses
      have PD := Lib.hid (show Pl w w6.drew T9 B L L v9 u9 from p6.out.next (Below.refl _ _).drew)
      have cz : w6.cell? ⟨B, 0, none⟩ = some u9 := p6.out.blk.cell 0
      have S1 : w6.drew.cell? ⟨B, 0, none⟩ = some u9 := cz
      clear p6
      subst hu
      go_wp2_with fail
      clear cz
      go_region_held3 (fun w' => w'.cell? ⟨B, 0, none⟩ = some (.slice au L.length cu))
        (first | exact S1 | assumption)
        (first
          | (go_at_call 22; refine (all_any PD.out.tab hz).mono ?_; rintro e wa ⟨va, rfl, oa, ba⟩; have Pa := Lib.hid (PD.out.next ba); have sa := Lib.hid oa.ses; have ca : wa.cell? ⟨B, 0, none⟩ = some (.slice au L.length cu) := Pa.out.blk.cell 0; clear oa)
          | (go_at_call 21; refine (refs_any sa.out hz).mono ?_; rintro e wb ⟨vb, rfl, ob, bb⟩; have Pb := Lib.hid (Pa.out.next bb); have sb := Lib.hid ob.ses; have cb : wb.cell? ⟨B, 0, none⟩ = some (.slice au L.length cu) := Pb.out.blk.cell 0; clear ob)
          | (go_at_call 20; refine (same_yes sb.out Pb.out.ses hz).mono ?_; rintro e wc ⟨rfl, bc⟩; have Pc := Lib.hid (Pb.out.next bc); have cc : wc.cell? ⟨B, 0, none⟩ = some (.slice au L.length cu) := Pc.out.blk.cell 0)
          | (go_at_call 19; refine (text_any Pc.out.tab HZ.out).mono ?_; rintro e wd ⟨rfl, bd⟩; have Pd := Lib.hid (Pc.out.next bd); have cd : wd.cell? ⟨B, 0, none⟩ = some (.slice au L.length cu) := Pd.out.blk.cell 0)
          | (go_at_call 23; refine (rtext_any Pd.out.ses hz HBd.out).mono ?_; rintro e we ⟨rfl, be⟩; have Pe := Lib.hid (Pd.out.next be); have ce : we.cell? ⟨B, 0, none⟩ = some (.slice au L.length cu) := Pe.out.blk.cell 0))
      all_goals
        clear S1
        go_wp2_with fail
        go_roundw
        case rel => exact ⟨k + 1, T9, L, _, _, by go_num, rfl, HK.out.1, HK.out.2, Pe⟩
        case measure => have h9 := HK.out.1; simp [intOf]; omega
    have e0 : (x0 == 0) = false := by simpa using k0
    have e1 : (x0 == 1) = false := by simpa using k1
    have e2 : (x0 == 2) = false := by simpa using k2
    have e3 : (x0 == 3) = false := by simpa using k3
    have p6 := Lib.hid PX.out.pl
    clear PX
    generalize Value.slice au0 L.length cu0 = u9 at *
    have hz : L.length ≤ 1000 := by have := p6.out.ok.n; omega
    have HZ := Lib.hid p6.out.ok
    have HBd := Lib.hid HZ.out.bdx
    obtain ⟨au, cu, hu, -⟩ := p6.out.ses
    have PD := Lib.hid (show Pl w W3.drew T B L L v u9 from p6.out.next (Below.refl _ _).drew)
    have cz : W3.cell? ⟨B, 0, none⟩ = some u9 := p6.out.blk.cell 0
    have S1 : W3.drew.cell? ⟨B, 0, none⟩ = some u9 := cz
    clear p6
    subst hu
    go_wp2_with fail
    rw [← HW.out]
    clear cB c0 c1 c2
    clear cz
    go_region_held3 (fun w' => w'.cell? ⟨B, 0, none⟩ = some (.slice au L.length cu))
      (first | exact S1 | assumption)
      (first
        | (go_at_call 22; refine (all_any PD.out.tab hz).mono ?_; rintro e wa ⟨va, rfl, oa, ba⟩; have Pa := Lib.hid (PD.out.next ba); have sa := Lib.hid oa.ses; have ca : wa.cell? ⟨B, 0, none⟩ = some (.slice au L.length cu) := Pa.out.blk.cell 0; clear oa)
        | (go_at_call 21; refine (refs_any sa.out hz).mono ?_; rintro e wb ⟨vb, rfl, ob, bb⟩; have Pb := Lib.hid (Pa.out.next bb); have sb := Lib.hid ob.ses; have cb : wb.cell? ⟨B, 0, none⟩ = some (.slice au L.length cu) := Pb.out.blk.cell 0; clear ob)
        | (go_at_call 20; refine (same_yes sb.out Pb.out.ses hz).mono ?_; rintro e wc ⟨rfl, bc⟩; have Pc := Lib.hid (Pb.out.next bc); have cc : wc.cell? ⟨B, 0, none⟩ = some (.slice au L.length cu) := Pc.out.blk.cell 0)
        | (go_at_call 19; refine (text_any Pc.out.tab HZ.out).mono ?_; rintro e wd ⟨rfl, bd⟩; have Pd := Lib.hid (Pc.out.next bd); have cd : wd.cell? ⟨B, 0, none⟩ = some (.slice au L.length cu) := Pd.out.blk.cell 0)
        | (go_at_call 23; refine (rtext_any Pd.out.ses hz HBd.out).mono ?_; rintro e we ⟨rfl, be⟩; have Pe := Lib.hid (Pd.out.next be); have ce : we.cell? ⟨B, 0, none⟩ = some (.slice au L.length cu) := Pe.out.blk.cell 0))
    all_goals
      clear S1
      go_wp2_with fail
      go_roundw
      case rel => exact ⟨k + 1, T, L, _, _, by go_num, rfl, HK.out.1, HK.out.2, Pe⟩
      case measure => have h9 := HK.out.1; simp [intOf]; omega
end Go.Proofs.Ytkaocpfkigdpoaa
