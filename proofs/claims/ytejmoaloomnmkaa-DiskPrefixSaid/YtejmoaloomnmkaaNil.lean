/-
  THE LAW DiskNil AS A WALK.
-/
import Derived.Test.YtejmoaloomnmkaaAwk
namespace Go.Proofs.Ytejmoaloomnmkaa
open Go.RowKit
theorem Step.downed {a : Act} {S S' : St} {x : Int} (h : Step a S S' x) (hd : S.down = true) (hk : 0 ≤ a.kd ∧ a.kd ≤ 4) : S' = S ∧ x = 8 := by
  cases h with
  | no x h hk h7 h8 => exact ⟨rfl, h8 hd⟩
  | chg c S' x hd' => rw [hd] at hd'; cases hd'
  | sync S1 S' x hd' => rw [hd] at hd'; cases hd'
  | fail N hd' => rw [hd] at hd'; cases hd'
  | gone hd hk' => omega
  | trip hk' => omega
  | wake hk' => omega
  | room hk' => omega
  | other hk' => omega
section
variable {w : World} {B D m : Nat} {S : St}
theorem actd (a : Act) (wf : a.Wf) (h : Dsk w B D m S) (ok : Ok S) (hm : m + 2 * S.row.length < 99990) :
    Calls Try.prog 12 #[.pointer (some ⟨D, 0, none⟩), a.val] w fun e w' => ∃ x S', e = .returned (.int .i64 x) ∧ Dsk w' B D (m + 2 * S.row.length + 5) S' ∧ Ok S' ∧ Step a S S' x ∧ S'.row.length ≤ S.row.length + 1 ∧ Below B w w' := by
  obtain ⟨L, h⟩ := h
  refine (act_any a wf h ok hm).mono fun e w' hh => ?_
  obtain ⟨x, rfl, S', L', d, ok', st, hl, F, hN⟩ := hh
  exact ⟨x, S', rfl, ⟨L', d⟩, ok', st, hl, Fr.foot h F⟩
theorem namesd (h : Dsk w B D m S) (hd : S.down = true) : Calls Try.prog 22 #[.pointer (some ⟨D, 0, none⟩)] w fun e w' => e = .returned nilS ∧ w = w' := by
  obtain ⟨L, h⟩ := h
  exact names_down h hd
theorem usedd (h : Dsk w B D m S) (hd : S.down = true) : Calls Try.prog 21 #[.pointer (some ⟨D, 0, none⟩)] w fun e w' => e = .returned (.int .i64 0) ∧ w = w' := by
  obtain ⟨L, h⟩ := h
  have := used_any h
  rw [hd, if_pos rfl] at this
  exact this
theorem waitsd (h : Dsk w B D m S) (hd : S.down = true) : Calls Try.prog 23 #[.pointer (some ⟨D, 0, none⟩)] w fun e w' => e = .returned (.int .i64 0) ∧ w = w' := by
  obtain ⟨L, h⟩ := h
  have := waits_any h
  rw [hd, if_pos rfl] at this
  exact this
end
def sB : Nm := ⟨#[98]⟩
theorem nil_keep : get (keepF (aw2 sB).sure (aw2 sB).row (atLeast 0 0)) nA = some [98] := by decide +kernel
/-- a disk that has lost its power, and file a -/
structure Gone (w : World) (B D m : Nat) (S : St) : Prop where
  d : Dsk w B D m S
  o : Ok S
  dn : S.down = true
  g : get S.now nA = some [98]
  r : m + 2 * S.row.length < 99000
set_option maxHeartbeats 1000000 in
set_option maxRecDepth 100000 in
theorem nil_law (kd n k : Int) (f s : Nm) (wf : Act.Wf ⟨kd, f, n, k, s⟩) (w : World) : Calls Try.prog 6 #[.agg #[.int .i64 kd, .string f, .int .i64 n, .int .i64 k, .string s]] w fun e w' => e = .returned (.bool true) ∧ Below w.heap.size w w' := by
  obtain ⟨w0, hw0, b0, K0, hl0⟩ : ∃ w0, w0 = w.alloc (Obj.cells #[.int .i64 kd, .string f, .int .i64 n, .int .i64 k, .string s] 31) ∧ Below w.heap.size w w0 ∧ Blk w0 w.heap.size 31 #[.int .i64 kd, .string f, .int .i64 n, .int .i64 k, .string s] ∧ w.heap.size < w0.heap.size :=
    ⟨_, rfl, (Below.refl _ w).alloc (Nat.le_refl _) _, Blk.new _ _ _, by simp⟩
  have W0 := Lib.hid hw0
  have K0h := Lib.hid K0
  have B0 := Lib.hid b0
  have WF := Lib.hid wf
  have hf := wf.nm
  simp only at hf
  clear hw0 K0 b0 wf
  have NW := Lib.hid (newd w0)
  generalize hy : w.heap.size = Y at *
  go_enter Try.func6, Try.ntmps6
  go_wp2_with fail
  rw [← W0.out]
  refine NW.out.mono ?_
  rintro e w1 ⟨D, rfl, d1, b1⟩
  have C1 := Lib.hid (putd (n := 0) nA sB d1 ok0 (by decide) rfl rfl (by decide) nameA (Nat.zero_le _) (by decide))
  have B1 := Lib.hid b1
  clear d1 b1 NW
  unfold nA sB at C1
  go_wp2_with fail
  refine C1.out.mono ?_
  rintro e w2 ⟨rfl, d2, o2, b2⟩
  have C2 := Lib.hid (syncd (S := aw1 sB) d2 o2 (by decide) rfl rfl)
  have B2 := Lib.hid (B1.out.trans b2)
  clear d2 o2 b2 C1 B1
  go_wp2_with fail
  refine C2.out.mono ?_
  rintro e w3 ⟨rfl, d3, o3, b3⟩
  have C3 := Lib.hid (faild (S := aw2 sB) 0 d3 o3 (by decide) (by decide))
  have B3 := Lib.hid (B2.out.trans b3)
  clear d3 o3 b3 C2 B2
  go_wp2_with fail
  refine C3.out.mono ?_
  rintro e w4 ⟨rfl, S4, d4, o4, hdn, _, hup, b4⟩
  obtain ⟨N, hS, hA⟩ := hup rfl
  have G4 : Hid (Gone w4 w0.heap.size D 20 S4) := Lib.hid ⟨(by obtain ⟨L, d⟩ := d4; exact ⟨L, d.mono (by decide) (by decide)⟩), o4, hdn, by rw [hS]; exact (hA nA).trans nil_keep, by rw [o4.bare hdn]; decide⟩
  have B4 := Lib.hid (B3.out.trans b4)
  have K4 : Blk w4 Y 31 #[.int .i64 kd, .string f, .int .i64 n, .int .i64 k, .string s] := K0h.out.below B4.out hl0
  have q0 : w4.cell? ⟨Y, 0, none⟩ = some (.int .i64 kd) := K4.cell 0
  have q1 : w4.cell? ⟨Y, 1, none⟩ = some (.string f) := K4.cell 1
  have q2 : w4.cell? ⟨Y, 2, none⟩ = some (.int .i64 n) := K4.cell 2
  have q3 : w4.cell? ⟨Y, 3, none⟩ = some (.int .i64 k) := K4.cell 3
  have q4 : w4.cell? ⟨Y, 4, none⟩ = some (.string s) := K4.cell 4
  have K4h := Lib.hid K4
  clear d4 o4 hdn hup hS hA b4 C3 B3 K4
  -- what stands behind the tests of x
  have END : Hid (∀ w5 m5, Gone w5 w0.heap.size D m5 S4 → Below w0.heap.size w0 w5 → Blk w5 Y 31 #[.int .i64 kd, .string f, .int .i64 n, .int .i64 k, .string s]) := Lib.hid (fun w5 m5 _ hb => K0h.out.below hb hl0)
  by_cases hk : 0 ≤ kd ∧ kd ≤ 4
  · obtain ⟨k0, k4⟩ := hk
    have A1 := Lib.hid (act_nil ⟨kd, f, n, k, s⟩ w4)
    unfold Act.val at A1
    simp only at A1
    go_wp2_with fail
    refine A1.out.mono ?_
    rintro e w5 ⟨x5, rfl, hx5, b5⟩
    obtain rfl := hx5 ⟨k0, k4⟩
    have G5 := Lib.hid (show Gone w5 w0.heap.size D 20 S4 from ⟨G4.out.d.below b5, G4.out.o, G4.out.dn, G4.out.g, G4.out.r⟩)
    have B5 := Lib.hid (B4.out.trans (b5.mono B4.out.size))
    have K5 := END.out w5 20 G5.out B5.out
    have r0 : w5.cell? ⟨Y, 0, none⟩ = some (.int .i64 kd) := K5.cell 0
    have r1 : w5.cell? ⟨Y, 1, none⟩ = some (.string f) := K5.cell 1
    have r2 : w5.cell? ⟨Y, 2, none⟩ = some (.int .i64 n) := K5.cell 2
    have r3 : w5.cell? ⟨Y, 3, none⟩ = some (.int .i64 k) := K5.cell 3
    have r4 : w5.cell? ⟨Y, 4, none⟩ = some (.string s) := K5.cell 4
    have A2 := Lib.hid (actd ⟨kd, f, n, k, s⟩ WF.out G5.out.d G5.out.o (by have := G5.out.r; omega))
    unfold Act.val at A2
    simp only at A2
    clear b5 hx5 A1 K5 q0 q1 q2 q3 q4 G4 B4 K4h
    go_wp2_with fail
    refine A2.out.mono ?_
    rintro e w6 ⟨x6, S6, rfl, d6, o6, st6, _, b6⟩
    obtain ⟨e6, rfl⟩ := st6.downed G5.out.dn ⟨k0, k4⟩
    rw [e6] at d6 o6
    have G6 : Hid (Gone w6 w0.heap.size D 25 S4) := Lib.hid ⟨(by obtain ⟨L, d⟩ := d6; rw [G5.out.o.bare G5.out.dn] at d; exact ⟨L, d.mono (by decide) (by decide)⟩), o6, G5.out.dn, G5.out.g, by rw [G5.out.o.bare G5.out.dn]; decide⟩
    have B6 := Lib.hid (B5.out.trans b6)
    have K6 := END.out w6 25 G6.out B6.out
    have s0 : w6.cell? ⟨Y, 0, none⟩ = some (.int .i64 kd) := K6.cell 0
    have s1 : w6.cell? ⟨Y, 1, none⟩ = some (.string f) := K6.cell 1
    have s2 : w6.cell? ⟨Y, 2, none⟩ = some (.int .i64 n) := K6.cell 2
    have s3 : w6.cell? ⟨Y, 3, none⟩ = some (.int .i64 k) := K6.cell 3
    have s4 : w6.cell? ⟨Y, 4, none⟩ = some (.string s) := K6.cell 4
    clear d6 o6 st6 b6 e6 A2 K6 r0 r1 r2 r3 r4 G5 B5
    go_wp2_with fail
    refine (act_nil ⟨kd, f, n, k, s⟩ _).mono ?_
    rintro e w7 ⟨x7, rfl, _, b7⟩
    have G7 := Lib.hid (show Gone w7 w0.heap.size D 25 S4 from ⟨G6.out.d.below b7, G6.out.o, G6.out.dn, G6.out.g, G6.out.r⟩)
    have B7 := Lib.hid (B6.out.trans (b7.mono B6.out.size))
    have K7 := END.out w7 25 G7.out B7.out
    have t1 : w7.cell? ⟨Y, 1, none⟩ = some (.string f) := K7.cell 1
    clear b7 K7 G6 B6
    go_wp2_with fail
    refine (read_nil f _).mono ?_
    rintro e w8 ⟨rfl, rfl⟩
    have R8 := Lib.hid (readd G7.out.d nA (by decide))
    rw [readV_down nA G7.out.dn] at R8
    unfold nA at R8
    go_wp2_with fail
    refine R8.out.mono ?_
    rintro e w9 ⟨rfl, rfl⟩
    have N9 := Lib.hid (namesd G7.out.d G7.out.dn)
    have U9 := Lib.hid (usedd G7.out.d G7.out.dn)
    have W9 := Lib.hid (waitsd G7.out.d G7.out.dn)
    have D9 := Lib.hid (downd G7.out.d)
    rw [G7.out.dn] at D9
    unfold nilS at N9
    have NN := Lib.hid names_nil
    unfold nilS at NN
    clear R8
    go_wp2_with fail
    refine (NN.out _).mono ?_
    rintro e wz ⟨rfl, rfl⟩
    go_wp2_with fail
    refine (N9.out).mono ?_
    rintro e wz ⟨rfl, rfl⟩
    go_wp2_with fail
    refine (used_nil _).mono ?_
    rintro e wz ⟨rfl, rfl⟩
    go_wp2_with fail
    refine (U9.out).mono ?_
    rintro e wz ⟨rfl, rfl⟩
    go_wp2_with fail
    refine (waits_nil _).mono ?_
    rintro e wz ⟨rfl, rfl⟩
    go_wp2_with fail
    refine (W9.out).mono ?_
    rintro e wz ⟨rfl, rfl⟩
    go_wp2_with fail
    refine (calls_nil _).mono ?_
    rintro e wz ⟨rfl, rfl⟩
    go_wp2_with fail
    refine (down_nil _).mono ?_
    rintro e wz ⟨rfl, rfl⟩
    go_wp2_with fail
    refine (D9.out).mono ?_
    rintro e wz ⟨rfl, rfl⟩
    go_wp2_with fail
    refine (waked G7.out.d G7.out.o).mono ?_
    rintro e w10 ⟨rfl, d10, o10, b10⟩
    have R10 := Lib.hid (readd d10 nA (by decide))
    rw [readV_up (S := { S4 with down := false }) rfl nameA G7.out.g] at R10
    have D10 := Lib.hid (downd d10)
    have B10 := Lib.hid (B7.out.trans b10)
    have D10h := Lib.hid d10
    clear d10 o10 b10 N9 U9 W9 D9 t1
    unfold nA str at R10
    go_wp2_with fail
    refine R10.out.mono ?_
    rintro e w11 ⟨rfl, rfl⟩
    go_wp2_with fail
    refine (awake_any _).mono ?_
    rintro e w12 ⟨rfl, b12⟩
    have D12 := Lib.hid (downd (D10h.out.below b12))
    have B12 := Lib.hid (B10.out.trans (b12.mono B10.out.size))
    clear b12 R10 D10
    go_wp2_with fail
    refine D12.out.mono ?_
    rintro e w13 ⟨rfl, rfl⟩
    go_wp2_with fail
    first | go_ret | go_ret2
    exact ⟨rfl, hy ▸ B0.out.trans (B12.out.mono (by omega))⟩
  · by_cases hn : kd < 0
    · have G6 : Hid (Gone w4 w0.heap.size D 25 S4) := Lib.hid ⟨(by obtain ⟨L, d⟩ := G4.out.d; exact ⟨L, d.mono (by decide) (by decide)⟩), G4.out.o, G4.out.dn, G4.out.g, by rw [G4.out.o.bare G4.out.dn]; decide⟩
      have B6 := B4
      clear hk G4 B4 K4h
      go_wp2_with fail
      refine (act_nil ⟨kd, f, n, k, s⟩ _).mono ?_
      rintro e w7 ⟨x7, rfl, _, b7⟩
      have G7 := Lib.hid (show Gone w7 w0.heap.size D 25 S4 from ⟨G6.out.d.below b7, G6.out.o, G6.out.dn, G6.out.g, G6.out.r⟩)
      have B7 := Lib.hid (B6.out.trans (b7.mono B6.out.size))
      have K7 := END.out w7 25 G7.out B7.out
      have t1 : w7.cell? ⟨Y, 1, none⟩ = some (.string f) := K7.cell 1
      clear b7 K7 G6 B6
      go_wp2_with fail
      refine (read_nil f _).mono ?_
      rintro e w8 ⟨rfl, rfl⟩
      have R8 := Lib.hid (readd G7.out.d nA (by decide))
      rw [readV_down nA G7.out.dn] at R8
      unfold nA at R8
      go_wp2_with fail
      refine R8.out.mono ?_
      rintro e w9 ⟨rfl, rfl⟩
      have N9 := Lib.hid (namesd G7.out.d G7.out.dn)
      have U9 := Lib.hid (usedd G7.out.d G7.out.dn)
      have W9 := Lib.hid (waitsd G7.out.d G7.out.dn)
      have D9 := Lib.hid (downd G7.out.d)
      rw [G7.out.dn] at D9
      unfold nilS at N9
      have NN := Lib.hid names_nil
      unfold nilS at NN
      clear R8
      go_wp2_with fail
      refine (NN.out _).mono ?_
      rintro e wz ⟨rfl, rfl⟩
      go_wp2_with fail
      refine (N9.out).mono ?_
      rintro e wz ⟨rfl, rfl⟩
      go_wp2_with fail
      refine (used_nil _).mono ?_
      rintro e wz ⟨rfl, rfl⟩
      go_wp2_with fail
      refine (U9.out).mono ?_
      rintro e wz ⟨rfl, rfl⟩
      go_wp2_with fail
      refine (waits_nil _).mono ?_
      rintro e wz ⟨rfl, rfl⟩
      go_wp2_with fail
      refine (W9.out).mono ?_
      rintro e wz ⟨rfl, rfl⟩
      go_wp2_with fail
      refine (calls_nil _).mono ?_
      rintro e wz ⟨rfl, rfl⟩
      go_wp2_with fail
      refine (down_nil _).mono ?_
      rintro e wz ⟨rfl, rfl⟩
      go_wp2_with fail
      refine (D9.out).mono ?_
      rintro e wz ⟨rfl, rfl⟩
      go_wp2_with fail
      refine (waked G7.out.d G7.out.o).mono ?_
      rintro e w10 ⟨rfl, d10, o10, b10⟩
      have R10 := Lib.hid (readd d10 nA (by decide))
      rw [readV_up (S := { S4 with down := false }) rfl nameA G7.out.g] at R10
      have D10 := Lib.hid (downd d10)
      have B10 := Lib.hid (B7.out.trans b10)
      have D10h := Lib.hid d10
      clear d10 o10 b10 N9 U9 W9 D9 t1
      unfold nA str at R10
      go_wp2_with fail
      refine R10.out.mono ?_
      rintro e w11 ⟨rfl, rfl⟩
      go_wp2_with fail
      refine (awake_any _).mono ?_
      rintro e w12 ⟨rfl, b12⟩
      have D12 := Lib.hid (downd (D10h.out.below b12))
      have B12 := Lib.hid (B10.out.trans (b12.mono B10.out.size))
      clear b12 R10 D10
      go_wp2_with fail
      refine D12.out.mono ?_
      rintro e w13 ⟨rfl, rfl⟩
      go_wp2_with fail
      first | go_ret | go_ret2
      exact ⟨rfl, hy ▸ B0.out.trans (B12.out.mono (by omega))⟩
    · have hn0 : 0 ≤ kd := by omega
      have hn4 : 4 < kd := by omega
      have G6 : Hid (Gone w4 w0.heap.size D 25 S4) := Lib.hid ⟨(by obtain ⟨L, d⟩ := G4.out.d; exact ⟨L, d.mono (by decide) (by decide)⟩), G4.out.o, G4.out.dn, G4.out.g, by rw [G4.out.o.bare G4.out.dn]; decide⟩
      have B6 := B4
      clear hk hn G4 B4 K4h
      go_wp2_with fail
      refine (act_nil ⟨kd, f, n, k, s⟩ _).mono ?_
      rintro e w7 ⟨x7, rfl, _, b7⟩
      have G7 := Lib.hid (show Gone w7 w0.heap.size D 25 S4 from ⟨G6.out.d.below b7, G6.out.o, G6.out.dn, G6.out.g, G6.out.r⟩)
      have B7 := Lib.hid (B6.out.trans (b7.mono B6.out.size))
      have K7 := END.out w7 25 G7.out B7.out
      have t1 : w7.cell? ⟨Y, 1, none⟩ = some (.string f) := K7.cell 1
      clear b7 K7 G6 B6
      go_wp2_with fail
      refine (read_nil f _).mono ?_
      rintro e w8 ⟨rfl, rfl⟩
      have R8 := Lib.hid (readd G7.out.d nA (by decide))
      rw [readV_down nA G7.out.dn] at R8
      unfold nA at R8
      go_wp2_with fail
      refine R8.out.mono ?_
      rintro e w9 ⟨rfl, rfl⟩
      have N9 := Lib.hid (namesd G7.out.d G7.out.dn)
      have U9 := Lib.hid (usedd G7.out.d G7.out.dn)
      have W9 := Lib.hid (waitsd G7.out.d G7.out.dn)
      have D9 := Lib.hid (downd G7.out.d)
      rw [G7.out.dn] at D9
      unfold nilS at N9
      have NN := Lib.hid names_nil
      unfold nilS at NN
      clear R8
      go_wp2_with fail
      refine (NN.out _).mono ?_
      rintro e wz ⟨rfl, rfl⟩
      go_wp2_with fail
      refine (N9.out).mono ?_
      rintro e wz ⟨rfl, rfl⟩
      go_wp2_with fail
      refine (used_nil _).mono ?_
      rintro e wz ⟨rfl, rfl⟩
      go_wp2_with fail
      refine (U9.out).mono ?_
      rintro e wz ⟨rfl, rfl⟩
      go_wp2_with fail
      refine (waits_nil _).mono ?_
      rintro e wz ⟨rfl, rfl⟩
      go_wp2_with fail
      refine (W9.out).mono ?_
      rintro e wz ⟨rfl, rfl⟩
      go_wp2_with fail
      refine (calls_nil _).mono ?_
      rintro e wz ⟨rfl, rfl⟩
      go_wp2_with fail
      refine (down_nil _).mono ?_
      rintro e wz ⟨rfl, rfl⟩
      go_wp2_with fail
      refine (D9.out).mono ?_
      rintro e wz ⟨rfl, rfl⟩
      go_wp2_with fail
      refine (waked G7.out.d G7.out.o).mono ?_
      rintro e w10 ⟨rfl, d10, o10, b10⟩
      have R10 := Lib.hid (readd d10 nA (by decide))
      rw [readV_up (S := { S4 with down := false }) rfl nameA G7.out.g] at R10
      have D10 := Lib.hid (downd d10)
      have B10 := Lib.hid (B7.out.trans b10)
      have D10h := Lib.hid d10
      clear d10 o10 b10 N9 U9 W9 D9 t1
      unfold nA str at R10
      go_wp2_with fail
      refine R10.out.mono ?_
      rintro e w11 ⟨rfl, rfl⟩
      go_wp2_with fail
      refine (awake_any _).mono ?_
      rintro e w12 ⟨rfl, b12⟩
      have D12 := Lib.hid (downd (D10h.out.below b12))
      have B12 := Lib.hid (B10.out.trans (b12.mono B10.out.size))
      clear b12 R10 D10
      go_wp2_with fail
      refine D12.out.mono ?_
      rintro e w13 ⟨rfl, rfl⟩
      go_wp2_with fail
      first | go_ret | go_ret2
      exact ⟨rfl, hy ▸ B0.out.trans (B12.out.mono (by omega))⟩
end Go.Proofs.Ytejmoaloomnmkaa
