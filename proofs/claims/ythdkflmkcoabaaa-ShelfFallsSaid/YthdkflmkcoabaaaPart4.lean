/-
  WHAT THE ROWS REST ON, part 4: Rdv Lod Lod2 Lsn Sav2 Sav3 Sav4 Dskq Savq Awk Nilw Sre Tlaw BOne BWas Pln BRef BRefs.
-/
import Derived.Lib.QuietBelow
import Derived.BigQuiet
import Derived.Test.YthdkflmkcoabaaaPart3
/-
  A VOTE READ OF A TEXT: read, ReadVote.
-/
namespace Go.Proofs.Ythdkflmkcoabaaa
open Go.RowKit
def rdE (s : ByteArray) : Int := Bt.endE (tv2 s).2.1 (tv2 s).2.2
def rdT (s : ByteArray) : Int := wrap64 ((tv1 s).1 : Int)
def rdF (s : ByteArray) : Int := (tv2 s).1
def rdV (s : ByteArray) : Int × Int × Int := if rdE s = 0 ∧ voteB (rdT s) (rdF s) = true then (rdT s, rdF s, 0) else (0, 0, 3)
theorem end_cells {wa w : World} {Y t : Nat} {x y : Value} (a b : Value) (K : Blk wa Y t #[x, y]) (B : Below Y w wa) : ((wa.setCell ⟨Y, 0, none⟩ a).setCell ⟨Y, 1, none⟩ b).cell? ⟨Y, 0, none⟩ = some a ∧ ((wa.setCell ⟨Y, 0, none⟩ a).setCell ⟨Y, 1, none⟩ b).cell? ⟨Y, 1, none⟩ = some b ∧ Below Y w ((wa.setCell ⟨Y, 0, none⟩ a).setCell ⟨Y, 1, none⟩ b) ∧ Blk ((wa.setCell ⟨Y, 0, none⟩ a).setCell ⟨Y, 1, none⟩ b) Y t #[a, b] := by
  have K5 : Blk ((wa.setCell ⟨Y, 0, none⟩ a).setCell ⟨Y, 1, none⟩ b) Y t #[a, b] := (K.set 0 a).set 1 b
  have hl := K.lt
  have F := (fr_set wa Y 0 a).trans (fr_set (wa.setCell ⟨Y, 0, none⟩ a) Y 1 b) (R := fun q => q = Y) (fun _ _ h => h) (fun _ _ h => h)
  exact ⟨K5.cell 0, K5.cell 1, B.trans (F.below (B := Y) (fun q hq => Nat.le_of_eq hq.symm) (Nat.le_of_lt hl)), K5⟩
set_option maxHeartbeats 4000000 in
theorem read_vote (s : ByteArray) (hs : s.size ≤ 281474976710656) (w : World) :
    Calls Try.prog 44 #[.string s, .func (.func 45) #[] #[], .func (.func 36) #[] #[]] w fun e w' => e = .returned (.tuple #[voteV (rdV s).1 (rdV s).2.1, .int .i64 (rdV s).2.2]) ∧ Below w.heap.size w w' := by
  have A := Lib.hid (fun W => Bt.at_any s W hs)
  have TK := Lib.hid (fun W b (h : Bt.TapeAt W b s 0) => takeVote_any h hs)
  have EN := Lib.hid (fun W b (h : Bt.TapeAt W b (tv2 s).2.1 (tv2 s).2.2) => Bt.end_any h)
  have MY := Lib.hid (fun W => voteMay_any (rdT s) (rdF s) W)
  rw [show Bt.endE (tv2 s).2.1 (tv2 s).2.2 = rdE s from rfl] at EN
  rw [show wrap64 ((tv1 s).1 : Int) = rdT s from rfl, show (tv2 s).1 = rdF s from rfl] at TK
  have R : ∃ a b c, rdV s = (a, b, c) ∧ ((rdE s ≠ 0 ∧ a = 0 ∧ b = 0 ∧ c = 3) ∨ (rdE s = 0 ∧ voteB (rdT s) (rdF s) = false ∧ a = 0 ∧ b = 0 ∧ c = 3) ∨ (rdE s = 0 ∧ voteB (rdT s) (rdF s) = true ∧ a = rdT s ∧ b = rdF s ∧ c = 0)) := by
    unfold rdV
    by_cases h1 : rdE s = 0
    · cases h2 : voteB (rdT s) (rdF s)
      · exact ⟨_, _, _, by rw [if_neg (by simp)], .inr (.inl ⟨h1, rfl, rfl, rfl, rfl⟩)⟩
      · exact ⟨_, _, _, by rw [if_pos ⟨h1, rfl⟩], .inr (.inr ⟨h1, rfl, rfl, rfl, rfl⟩)⟩
    · exact ⟨_, _, _, by rw [if_neg (fun h => h1 h.1)], .inl ⟨h1, rfl, rfl, rfl⟩⟩
  obtain ⟨ra, rb, rc, hR, R⟩ := R
  rw [hR]
  simp only
  clear hR
  generalize tv2 s = y at *
  generalize rdE s = E at *
  generalize rdT s = T at *
  generalize rdF s = F at *
  generalize hb : voteB T F = bb at *
  unfold voteV at *
  have K0 := Lib.hid (Blk.new w 23 #[.int .i64 0, .int .i64 0])
  have bA := Lib.hid ((Below.refl _ w).alloc (Nat.le_refl _) (.cells #[.int .i64 0, .int .i64 0] 23))
  generalize hy : w.heap.size = Y at *
  go_enter Try.func44, Try.ntmps44
  go_wp2_with fail
  refine (A.out _).mono ?_
  rintro e w1 ⟨b, rfl, hbY, t1, b1⟩
  have hbY' : Y < b := by have h := hbY; simp [hy] at h; omega
  have K1 := Lib.hid (K0.out.below b1 (by simp [hy]))
  have B1 := Lib.hid (bA.out.trans (b1.mono (by simp [hy])))
  have TK1 := Lib.hid (TK.out _ _ t1)
  clear t1 b1 K0 bA A TK hbY
  go_wp2_with fail
  refine TK1.out.mono ?_
  rintro e w2 ⟨rfl, f2, t2⟩
  have K2 := K1.out.fr f2 (by omega)
  have B2 := B1.out.trans (f2.below (B := Y) (fun q hq => by omega) (by have := B1.out.size; omega))
  have hY2 : Y < w2.heap.size := K2.lt
  have hb2 : b < w2.heap.size := t2.lt
  have bC := (Below.refl w2.heap.size w2).alloc (Nat.le_refl _) (.cells #[.int .i64 T, .int .i64 F] 23)
  have EN1 := Lib.hid (EN.out _ _ (t2.below bC hb2))
  have K2h := Lib.hid (K2.below bC hY2)
  have B2h := Lib.hid (B2.trans (bC.mono (by have := B2.size; omega)))
  have N2h := Lib.hid (Blk.new w2 23 #[.int .i64 T, .int .i64 F])
  clear f2 t2 TK1 K1 B1 K2 B2 bC EN
  go_wp2_with fail
  refine EN1.out.mono ?_
  rintro e w3' ⟨rfl, rfl⟩
  have hZ : Y < w2.heap.size := hY2
  have hs3 : w2.heap.size < (w2.alloc (.cells #[.int .i64 T, .int .i64 F] 23)).heap.size := N2h.out.lt
  generalize w2.alloc (.cells #[.int .i64 T, .int .i64 F] 23) = w3 at *
  generalize w2.heap.size = Z at *
  clear EN1 hY2 hb2
  rcases R with ⟨h1, rfl, rfl, rfl⟩ | ⟨rfl, rfl, rfl, rfl, rfl⟩ | ⟨rfl, rfl, rfl, rfl, rfl⟩
  · have hE : (E != 0) = true := by simpa using h1
    clear MY h1 N2h
    have bD := (Below.refl w3.heap.size w3).alloc (Nat.le_refl _) (.cells #[.int .i64 0, .int .i64 0] 23)
    have BD := Lib.hid (B2h.out.trans (bD.mono (by have := B2h.out.size; omega)))
    have KK := Lib.hid (K2h.out.below bD (by omega))
    have c0 : (w3.alloc (.cells #[.int .i64 0, .int .i64 0] 23)).cell? ⟨Y, 0, none⟩ = some (.int .i64 0) := KK.out.cell 0
    have c1 : (w3.alloc (.cells #[.int .i64 0, .int .i64 0] 23)).cell? ⟨Y, 1, none⟩ = some (.int .i64 0) := KK.out.cell 1
    have f0 : (w3.alloc (.cells #[.int .i64 0, .int .i64 0] 23)).frozen? ⟨Y, 0, none⟩ = false := KK.out.free 0
    have f1 : (w3.alloc (.cells #[.int .i64 0, .int .i64 0] 23)).frozen? ⟨Y, 1, none⟩ = false := KK.out.free 1
    clear bD
    go_wp2_with fail
    obtain ⟨z0, z1, B5, _⟩ := end_cells (.int .i64 0) (.int .i64 0) KK.out BD.out
    clear c0 c1 f0 f1
    generalize (World.setCell (World.setCell (w3.alloc (.cells #[.int .i64 0, .int .i64 0] 23)) ⟨Y, 0, none⟩ (.int .i64 0)) ⟨Y, 1, none⟩ (.int .i64 0)) = w9 at *
    refine bodyPost_ret (by simp [results, Try.results44, go_sem, z0, z1]; try rfl) rfl ?_
    exact ⟨rfl, B5⟩
  · have e0 : w3.cell? ⟨Z, 0, none⟩ = some (.int .i64 T) := N2h.out.cell 0
    have e1 : w3.cell? ⟨Z, 1, none⟩ = some (.int .i64 F) := N2h.out.cell 1
    go_wp2_with fail
    refine (MY.out _).mono ?_
    rintro e w4 ⟨rfl, b4⟩
    have K4 := Lib.hid (K2h.out.below b4 (by omega))
    have B4 := Lib.hid (B2h.out.trans (b4.mono (by have := B2h.out.size; omega)))
    clear b4 MY N2h K2h B2h e0 e1
    have bD := (Below.refl w4.heap.size w4).alloc (Nat.le_refl _) (.cells #[.int .i64 0, .int .i64 0] 23)
    have BD := Lib.hid (B4.out.trans (bD.mono (by have := B4.out.size; omega)))
    have KK := Lib.hid (K4.out.below bD K4.out.lt)
    have c0 : (w4.alloc (.cells #[.int .i64 0, .int .i64 0] 23)).cell? ⟨Y, 0, none⟩ = some (.int .i64 0) := KK.out.cell 0
    have c1 : (w4.alloc (.cells #[.int .i64 0, .int .i64 0] 23)).cell? ⟨Y, 1, none⟩ = some (.int .i64 0) := KK.out.cell 1
    have f0 : (w4.alloc (.cells #[.int .i64 0, .int .i64 0] 23)).frozen? ⟨Y, 0, none⟩ = false := KK.out.free 0
    have f1 : (w4.alloc (.cells #[.int .i64 0, .int .i64 0] 23)).frozen? ⟨Y, 1, none⟩ = false := KK.out.free 1
    clear bD
    go_wp2_with fail
    obtain ⟨z0, z1, B5, _⟩ := end_cells (.int .i64 0) (.int .i64 0) KK.out BD.out
    clear c0 c1 f0 f1
    generalize (World.setCell (World.setCell (w4.alloc (.cells #[.int .i64 0, .int .i64 0] 23)) ⟨Y, 0, none⟩ (.int .i64 0)) ⟨Y, 1, none⟩ (.int .i64 0)) = w9 at *
    refine bodyPost_ret (by simp [results, Try.results44, go_sem, z0, z1]; try rfl) rfl ?_
    exact ⟨rfl, B5⟩
  · have e0 : w3.cell? ⟨Z, 0, none⟩ = some (.int .i64 ra) := N2h.out.cell 0
    have e1 : w3.cell? ⟨Z, 1, none⟩ = some (.int .i64 rb) := N2h.out.cell 1
    go_wp2_with fail
    refine (MY.out _).mono ?_
    rintro e w4 ⟨rfl, b4⟩
    have K4 := Lib.hid (K2h.out.below b4 (by omega))
    have N4 := Lib.hid (N2h.out.below b4 hs3)
    have B4 := Lib.hid (B2h.out.trans (b4.mono (by have := B2h.out.size; omega)))
    clear b4 MY N2h K2h B2h e0 e1
    have e0 : w4.cell? ⟨Z, 0, none⟩ = some (.int .i64 ra) := N4.out.cell 0
    have e1 : w4.cell? ⟨Z, 1, none⟩ = some (.int .i64 rb) := N4.out.cell 1
    have KK := Lib.hid (K4.out)
    have c0 : w4.cell? ⟨Y, 0, none⟩ = some (.int .i64 0) := KK.out.cell 0
    have c1 : w4.cell? ⟨Y, 1, none⟩ = some (.int .i64 0) := KK.out.cell 1
    have f0 : w4.frozen? ⟨Y, 0, none⟩ = false := KK.out.free 0
    have f1 : w4.frozen? ⟨Y, 1, none⟩ = false := KK.out.free 1
    go_wp2_with fail
    obtain ⟨z0, z1, B5, _⟩ := end_cells (.int .i64 ra) (.int .i64 rb) KK.out B4.out
    clear c0 c1 f0 f1 e0 e1
    generalize (World.setCell (World.setCell w4 ⟨Y, 0, none⟩ (.int .i64 ra)) ⟨Y, 1, none⟩ (.int .i64 rb)) = w9 at *
    refine bodyPost_ret (by simp [results, Try.results44, go_sem, z0, z1]; try rfl) rfl ?_
    exact ⟨rfl, B5⟩
end Go.Proofs.Ythdkflmkcoabaaa
/-
  A VOTE LOADED OFF A DISK: ReadVote, load.
-/
namespace Go.Proofs.Ythdkflmkcoabaaa
open Go.RowKit
set_option maxHeartbeats 2000000 in
theorem readVote_any (s : ByteArray) (hs : s.size ≤ 281474976710656) (w : World) :
    Calls Try.prog 14 #[.string s] w fun e w' => e = .returned (.tuple #[voteV (rdV s).1 (rdV s).2.1, .int .i64 (rdV s).2.2]) ∧ Below w.heap.size w w' := by
  have RD := Lib.hid (fun W => read_vote s hs W)
  generalize rdV s = r at *
  obtain ⟨ra, rb, rc⟩ := r
  simp only at RD ⊢
  unfold voteV at *
  have K0 := Lib.hid (Blk.new w 23 #[.int .i64 0, .int .i64 0])
  have bA := Lib.hid ((Below.refl _ w).alloc (Nat.le_refl _) (.cells #[.int .i64 0, .int .i64 0] 23))
  generalize hy : w.heap.size = Y at *
  go_enter Try.func14, Try.ntmps14
  go_wp2_with fail
  refine (RD.out _).mono ?_
  rintro e w1 ⟨rfl, b1⟩
  have KK := Lib.hid (K0.out.below b1 (by simp [hy]))
  have B1 := Lib.hid (bA.out.trans (b1.mono (by simp [hy])))
  clear b1 K0 bA RD
  have c0 : w1.cell? ⟨Y, 0, none⟩ = some (.int .i64 0) := KK.out.cell 0
  have c1 : w1.cell? ⟨Y, 1, none⟩ = some (.int .i64 0) := KK.out.cell 1
  have f0 : w1.frozen? ⟨Y, 0, none⟩ = false := KK.out.free 0
  have f1 : w1.frozen? ⟨Y, 1, none⟩ = false := KK.out.free 1
  go_wp2_with fail
  obtain ⟨z0, z1, B5, _⟩ := end_cells (.int .i64 ra) (.int .i64 rb) KK.out B1.out
  clear c0 c1 f0 f1
  generalize (World.setCell (World.setCell w1 ⟨Y, 0, none⟩ (.int .i64 ra)) ⟨Y, 1, none⟩ (.int .i64 rb)) = w9 at *
  refine bodyPost_ret (by simp [results, Try.results14, go_sem, z0, z1]; try rfl) rfl ?_
  exact ⟨rfl, B5⟩
set_option maxHeartbeats 4000000 in
/-- where there is no file to read, or the disk tells nothing -/
theorem load_err {p : Option Addr} {nm x : ByteArray} {n : Int} {w : World} (hR : ∀ W, Below w.heap.size w W → Calls Try.prog 30 #[.pointer p, .string nm] W fun e w' => e = .returned (.tuple #[.string x, .int .i64 n]) ∧ W = w') (hn : n ≠ 0) :
    Calls Try.prog 58 #[.pointer p, .string nm, .func (.func 14) #[] #[]] w fun e w' => e = .returned (.tuple #[voteV 0 0, .bool false, .int .i64 (if n = 4 then 0 else n)]) ∧ Below w.heap.size w w' := by
  have RD := Lib.hid hR
  clear hR
  unfold voteV at *
  have K0 := Lib.hid (Blk.new w 23 #[.int .i64 0, .int .i64 0])
  have bA := Lib.hid ((Below.refl _ w).alloc (Nat.le_refl _) (.cells #[.int .i64 0, .int .i64 0] 23))
  have RE := Lib.hid (RD.out _ bA.out)
  have h0 : (n != 0) = true := by simpa using hn
  clear RD hn
  generalize hy : w.heap.size = Y at *
  by_cases h4 : n = 4
  · subst h4
    rw [if_pos rfl]
    go_enter Try.func58, Try.ntmps58
    go_wp2_with fail
    refine RE.out.mono ?_
    rintro e w1 ⟨rfl, rfl⟩
    go_wp2_with fail
    have z0 : (w.alloc (.cells #[.int .i64 0, .int .i64 0] 23)).cell? ⟨Y, 0, none⟩ = some (.int .i64 0) := K0.out.cell 0
    have z1 : (w.alloc (.cells #[.int .i64 0, .int .i64 0] 23)).cell? ⟨Y, 1, none⟩ = some (.int .i64 0) := K0.out.cell 1
    clear RE K0
    generalize w.alloc (.cells #[.int .i64 0, .int .i64 0] 23) = w9 at *
    refine bodyPost_ret (by simp [results, Try.results58, go_sem, z0, z1]; try rfl) rfl ?_
    exact ⟨rfl, bA.out⟩
  · have h4' : (n == 4) = false := by simpa using h4
    rw [if_neg h4]
    go_enter Try.func58, Try.ntmps58
    go_wp2_with fail
    refine RE.out.mono ?_
    rintro e w1 ⟨rfl, rfl⟩
    go_wp2_with fail
    have z0 : (w.alloc (.cells #[.int .i64 0, .int .i64 0] 23)).cell? ⟨Y, 0, none⟩ = some (.int .i64 0) := K0.out.cell 0
    have z1 : (w.alloc (.cells #[.int .i64 0, .int .i64 0] 23)).cell? ⟨Y, 1, none⟩ = some (.int .i64 0) := K0.out.cell 1
    clear RE K0
    generalize w.alloc (.cells #[.int .i64 0, .int .i64 0] 23) = w9 at *
    refine bodyPost_ret (by simp [results, Try.results58, go_sem, z0, z1]; try rfl) rfl ?_
    exact ⟨rfl, bA.out⟩
set_option maxHeartbeats 4000000 in
/-- where a file says a vote -/
theorem load_ok {p : Option Addr} {nm x b : ByteArray} {t f : Int} {w : World} (hR : ∀ W, Below w.heap.size w W → Calls Try.prog 30 #[.pointer p, .string nm] W fun e w' => e = .returned (.tuple #[.string x, .int .i64 0]) ∧ W = w') (hx : x.size ≤ 281474976710656) (hb : b.size ≤ 281474976710656) (hu : Ct.unp x = (b, ⟨#[]⟩, 0)) (hr : rdV b = (t, f, 0)) :
    Calls Try.prog 58 #[.pointer p, .string nm, .func (.func 14) #[] #[]] w fun e w' => e = .returned (.tuple #[voteV t f, .bool true, .int .i64 0]) ∧ Below w.heap.size w w' := by
  have RD := Lib.hid hR
  have UN := Lib.hid (fun W => Ct.unpack_any x hx W)
  have RV := Lib.hid (fun W => readVote_any b hb W)
  rw [hu] at UN
  rw [hr] at RV
  simp only [Ct.unpV] at UN RV
  clear hR hu hr
  unfold voteV at *
  have K0 := Lib.hid (Blk.new w 23 #[.int .i64 0, .int .i64 0])
  have bA := Lib.hid ((Below.refl _ w).alloc (Nat.le_refl _) (.cells #[.int .i64 0, .int .i64 0] 23))
  have RE := Lib.hid (RD.out _ bA.out)
  clear RD
  generalize hy : w.heap.size = Y at *
  go_enter Try.func58, Try.ntmps58
  go_wp2_with fail
  refine RE.out.mono ?_
  rintro e w1 ⟨rfl, rfl⟩
  go_wp2_with fail
  refine (UN.out _).mono ?_
  rintro e w2 ⟨rfl, b2⟩
  have K2 := Lib.hid (K0.out.below b2 (by simp [hy]))
  have B2 := Lib.hid (bA.out.trans (b2.mono (by simp [hy])))
  clear b2 K0 bA RE UN
  go_wp2_with fail
  refine (RV.out _).mono ?_
  rintro e w3 ⟨rfl, b3⟩
  have KK := Lib.hid (K2.out.below b3 K2.out.lt)
  have B3 := Lib.hid (B2.out.trans (b3.mono (by have := B2.out.size; omega)))
  clear b3 K2 B2 RV
  have c0 : w3.cell? ⟨Y, 0, none⟩ = some (.int .i64 0) := KK.out.cell 0
  have c1 : w3.cell? ⟨Y, 1, none⟩ = some (.int .i64 0) := KK.out.cell 1
  have f0 : w3.frozen? ⟨Y, 0, none⟩ = false := KK.out.free 0
  have f1 : w3.frozen? ⟨Y, 1, none⟩ = false := KK.out.free 1
  go_wp2_with fail
  obtain ⟨_, _, B5, K5⟩ := end_cells (.int .i64 t) (.int .i64 f) KK.out B3.out
  clear c0 c1 f0 f1 KK B3
  generalize (World.setCell (World.setCell w3 ⟨Y, 0, none⟩ (.int .i64 t)) ⟨Y, 1, none⟩ (.int .i64 f)) = w8 at *
  obtain ⟨z0, z1, B6, _⟩ := end_cells (.int .i64 t) (.int .i64 f) K5 B5
  clear B5 K5
  generalize (World.setCell (World.setCell w8 ⟨Y, 0, none⟩ (.int .i64 t)) ⟨Y, 1, none⟩ (.int .i64 f)) = w9 at *
  refine bodyPost_ret (by simp [results, Try.results58, go_sem, z0, z1]; try rfl) rfl ?_
  exact ⟨rfl, B6⟩
end Go.Proofs.Ythdkflmkcoabaaa
/-
  LoadVote; a snapshot where there is none.
-/
namespace Go.Proofs.Ythdkflmkcoabaaa
open Go.RowKit
set_option maxHeartbeats 4000000 in
/-- what load tells, LoadVote tells; where there is none, a vote for nobody -/
theorem loadVote_of {p : Option Addr} {t f n : Int} {b : Bool} {w : World} (hL : ∀ W, Below w.heap.size w W → Calls Try.prog 58 #[.pointer p, .string ⟨#[118, 111, 116, 101]⟩, .func (.func 14) #[] #[]] W fun e w' => e = .returned (.tuple #[voteV t f, .bool b, .int .i64 n]) ∧ Below W.heap.size W w') :
    Calls Try.prog 31 #[.pointer p] w fun e w' => e = .returned (.tuple #[voteV t (if n = 0 ∧ b = false then -1 else f), .int .i64 n]) ∧ Below w.heap.size w w' := by
  have RD := Lib.hid hL
  clear hL
  obtain ⟨r, hr, R⟩ : ∃ r, (if n = 0 ∧ b = false then -1 else f) = r ∧ ((n = 0 ∧ b = false ∧ r = -1) ∨ ((n == 0) = false ∧ r = f) ∨ ((n == 0) = true ∧ b = true ∧ r = f)) := by
    by_cases h0 : n = 0
    · cases b
      · exact ⟨_, by rw [if_pos ⟨h0, rfl⟩], .inl ⟨h0, rfl, rfl⟩⟩
      · exact ⟨_, by rw [if_neg (by simp)], .inr (.inr ⟨by simpa using h0, rfl, rfl⟩)⟩
    · exact ⟨_, by rw [if_neg (fun h => h0 h.1)], .inr (.inl ⟨by simpa using h0, rfl⟩)⟩
  rw [hr]
  clear hr
  unfold voteV at *
  have K0 := Lib.hid (Blk.new w 23 #[.int .i64 0, .int .i64 0])
  have bA := Lib.hid ((Below.refl _ w).alloc (Nat.le_refl _) (.cells #[.int .i64 0, .int .i64 0] 23))
  have RE := Lib.hid (RD.out _ bA.out)
  clear RD
  generalize hy : w.heap.size = Y at *
  go_enter Try.func31, Try.ntmps31
  go_wp2_with fail
  refine RE.out.mono ?_
  rintro e w1 ⟨rfl, b1⟩
  have K1 := K0.out.below b1 (by simp [hy])
  have B1 := bA.out.trans (b1.mono (by simp [hy]))
  have K2 := Lib.hid K1
  have B2 := Lib.hid B1
  have hz : Y < w1.heap.size := K1.lt
  clear b1 K1 B1 K0 bA RE
  have c0 : w1.cell? ⟨Y, 0, none⟩ = some (.int .i64 0) := K2.out.cell 0
  have c1 : w1.cell? ⟨Y, 1, none⟩ = some (.int .i64 0) := K2.out.cell 1
  have f0 : w1.frozen? ⟨Y, 0, none⟩ = false := K2.out.free 0
  have f1 : w1.frozen? ⟨Y, 1, none⟩ = false := K2.out.free 1
  rcases R with ⟨rfl, rfl, rfl⟩ | ⟨h0, rfl⟩ | ⟨h0, rfl, rfl⟩
  · go_wp2_with fail
    obtain ⟨_, _, B5, K5⟩ := end_cells (.int .i64 t) (.int .i64 (-1)) K2.out B2.out
    clear c0 c1 f0 f1 K2 B2
    generalize (World.setCell (World.setCell w1 ⟨Y, 0, none⟩ (.int .i64 t)) ⟨Y, 1, none⟩ (.int .i64 (-1))) = w8 at *
    have bD := (Below.refl w8.heap.size w8).alloc (Nat.le_refl _) (.cells #[.int .i64 t, .int .i64 (-1)] 23)
    have K6 := K5.below bD K5.lt
    have B6 := B5.trans (bD.mono (Nat.le_of_lt K5.lt))
    generalize w8.alloc (.cells #[.int .i64 t, .int .i64 (-1)] 23) = w9 at *
    have z0 : w9.cell? ⟨Y, 0, none⟩ = some (.int .i64 t) := K6.cell 0
    have z1 : w9.cell? ⟨Y, 1, none⟩ = some (.int .i64 (-1)) := K6.cell 1
    refine bodyPost_ret (by simp [results, Try.results31, go_sem, z0, z1]; try rfl) rfl ?_
    exact ⟨rfl, B6⟩
  · go_wp2_with fail
    obtain ⟨_, _, B5, K5⟩ := end_cells (.int .i64 t) (.int .i64 r) K2.out B2.out
    clear c0 c1 f0 f1 K2 B2
    generalize (World.setCell (World.setCell w1 ⟨Y, 0, none⟩ (.int .i64 t)) ⟨Y, 1, none⟩ (.int .i64 r)) = w8 at *
    have bD := (Below.refl w8.heap.size w8).alloc (Nat.le_refl _) (.cells #[.int .i64 t, .int .i64 r] 23)
    have K6 := K5.below bD K5.lt
    have B6 := B5.trans (bD.mono (Nat.le_of_lt K5.lt))
    generalize w8.alloc (.cells #[.int .i64 t, .int .i64 r] 23) = w9 at *
    have z0 : w9.cell? ⟨Y, 0, none⟩ = some (.int .i64 t) := K6.cell 0
    have z1 : w9.cell? ⟨Y, 1, none⟩ = some (.int .i64 r) := K6.cell 1
    refine bodyPost_ret (by simp [results, Try.results31, go_sem, z0, z1]; try rfl) rfl ?_
    exact ⟨rfl, B6⟩
  · go_wp2_with fail
    obtain ⟨_, _, B5, K5⟩ := end_cells (.int .i64 t) (.int .i64 r) K2.out B2.out
    clear c0 c1 f0 f1 K2 B2
    generalize (World.setCell (World.setCell w1 ⟨Y, 0, none⟩ (.int .i64 t)) ⟨Y, 1, none⟩ (.int .i64 r)) = w8 at *
    have bD := (Below.refl w8.heap.size w8).alloc (Nat.le_refl _) (.cells #[.int .i64 t, .int .i64 r] 23)
    have K6 := K5.below bD K5.lt
    have B6 := B5.trans (bD.mono (Nat.le_of_lt K5.lt))
    generalize w8.alloc (.cells #[.int .i64 t, .int .i64 r] 23) = w9 at *
    have z0 : w9.cell? ⟨Y, 0, none⟩ = some (.int .i64 t) := K6.cell 0
    have z1 : w9.cell? ⟨Y, 1, none⟩ = some (.int .i64 r) := K6.cell 1
    refine bodyPost_ret (by simp [results, Try.results31, go_sem, z0, z1]; try rfl) rfl ?_
    exact ⟨rfl, B6⟩
end Go.Proofs.Ythdkflmkcoabaaa
/-
  LoadSnap WHERE THERE IS NONE, or the disk tells nothing.
-/
namespace Go.Proofs.Ythdkflmkcoabaaa
open Go.RowKit
set_option maxHeartbeats 4000000 in
theorem loadS_err {p : Option Addr} {nm x : ByteArray} {n : Int} {w : World} (hR : ∀ W, Below w.heap.size w W → Calls Try.prog 30 #[.pointer p, .string nm] W fun e w' => e = .returned (.tuple #[.string x, .int .i64 n]) ∧ W = w') (hn : n ≠ 0) :
    Calls Try.prog 59 #[.pointer p, .string nm, .func (.func 16) #[] #[]] w fun e w' => e = .returned (.tuple #[snapV 0 0 0 ⟨#[]⟩, .bool false, .int .i64 (if n = 4 then 0 else n)]) ∧ Below w.heap.size w w' := by
  have RD := Lib.hid hR
  clear hR
  unfold snapV at *
  have K0 := Lib.hid (Blk.new w 25 #[.int .i64 0, .int .i64 0, .int .i64 0, .string ⟨#[]⟩])
  have bA := Lib.hid ((Below.refl _ w).alloc (Nat.le_refl _) (.cells #[.int .i64 0, .int .i64 0, .int .i64 0, .string ⟨#[]⟩] 25))
  have RE := Lib.hid (RD.out _ bA.out)
  have h0 : (n != 0) = true := by simpa using hn
  clear RD hn
  generalize hy : w.heap.size = Y at *
  by_cases h4 : n = 4
  · subst h4
    rw [if_pos rfl]
    go_enter Try.func59, Try.ntmps59
    go_wp2_with fail
    refine RE.out.mono ?_
    rintro e w1 ⟨rfl, rfl⟩
    go_wp2_with fail
    have z0 : (w.alloc (.cells #[.int .i64 0, .int .i64 0, .int .i64 0, .string ⟨#[]⟩] 25)).cell? ⟨Y, 0, none⟩ = some (.int .i64 0) := K0.out.cell 0
    have z1 : (w.alloc (.cells #[.int .i64 0, .int .i64 0, .int .i64 0, .string ⟨#[]⟩] 25)).cell? ⟨Y, 1, none⟩ = some (.int .i64 0) := K0.out.cell 1
    have z2 : (w.alloc (.cells #[.int .i64 0, .int .i64 0, .int .i64 0, .string ⟨#[]⟩] 25)).cell? ⟨Y, 2, none⟩ = some (.int .i64 0) := K0.out.cell 2
    have z3 : (w.alloc (.cells #[.int .i64 0, .int .i64 0, .int .i64 0, .string ⟨#[]⟩] 25)).cell? ⟨Y, 3, none⟩ = some (.string ⟨#[]⟩) := K0.out.cell 3
    clear RE K0
    generalize w.alloc (.cells #[.int .i64 0, .int .i64 0, .int .i64 0, .string ⟨#[]⟩] 25) = w9 at *
    refine bodyPost_ret (by simp [results, Try.results59, go_sem, z0, z1, z2, z3]; try rfl) rfl ?_
    exact ⟨rfl, bA.out⟩
  · have h4' : (n == 4) = false := by simpa using h4
    rw [if_neg h4]
    go_enter Try.func59, Try.ntmps59
    go_wp2_with fail
    refine RE.out.mono ?_
    rintro e w1 ⟨rfl, rfl⟩
    go_wp2_with fail
    have z0 : (w.alloc (.cells #[.int .i64 0, .int .i64 0, .int .i64 0, .string ⟨#[]⟩] 25)).cell? ⟨Y, 0, none⟩ = some (.int .i64 0) := K0.out.cell 0
    have z1 : (w.alloc (.cells #[.int .i64 0, .int .i64 0, .int .i64 0, .string ⟨#[]⟩] 25)).cell? ⟨Y, 1, none⟩ = some (.int .i64 0) := K0.out.cell 1
    have z2 : (w.alloc (.cells #[.int .i64 0, .int .i64 0, .int .i64 0, .string ⟨#[]⟩] 25)).cell? ⟨Y, 2, none⟩ = some (.int .i64 0) := K0.out.cell 2
    have z3 : (w.alloc (.cells #[.int .i64 0, .int .i64 0, .int .i64 0, .string ⟨#[]⟩] 25)).cell? ⟨Y, 3, none⟩ = some (.string ⟨#[]⟩) := K0.out.cell 3
    clear RE K0
    generalize w.alloc (.cells #[.int .i64 0, .int .i64 0, .int .i64 0, .string ⟨#[]⟩] 25) = w9 at *
    refine bodyPost_ret (by simp [results, Try.results59, go_sem, z0, z1, z2, z3]; try rfl) rfl ?_
    exact ⟨rfl, bA.out⟩
set_option maxHeartbeats 4000000 in
theorem loadSnap_of {p : Option Addr} {n : Int} {w : World} (hL : ∀ W, Below w.heap.size w W → Calls Try.prog 59 #[.pointer p, .string ⟨#[115, 110, 97, 112]⟩, .func (.func 16) #[] #[]] W fun e w' => e = .returned (.tuple #[snapV 0 0 0 ⟨#[]⟩, .bool false, .int .i64 n]) ∧ Below W.heap.size W w') :
    Calls Try.prog 32 #[.pointer p] w fun e w' => e = .returned (.tuple #[snapV 0 0 0 ⟨#[]⟩, .bool false, .int .i64 n]) ∧ Below w.heap.size w w' := by
  have RD := Lib.hid hL
  clear hL
  unfold snapV at *
  have K0 := Lib.hid (Blk.new w 25 #[.int .i64 0, .int .i64 0, .int .i64 0, .string ⟨#[]⟩])
  have bA := Lib.hid ((Below.refl _ w).alloc (Nat.le_refl _) (.cells #[.int .i64 0, .int .i64 0, .int .i64 0, .string ⟨#[]⟩] 25))
  have RE := Lib.hid (RD.out _ bA.out)
  clear RD
  generalize hy : w.heap.size = Y at *
  go_enter Try.func32, Try.ntmps32
  go_wp2_with fail
  refine RE.out.mono ?_
  rintro e w1 ⟨rfl, b1⟩
  have K1 := K0.out.below b1 (by simp [hy])
  have B1 := bA.out.trans (b1.mono (by simp [hy]))
  clear b1 K0 bA RE
  have c0 : w1.cell? ⟨Y, 0, none⟩ = some (.int .i64 0) := K1.cell 0
  have c1 : w1.cell? ⟨Y, 1, none⟩ = some (.int .i64 0) := K1.cell 1
  have c2 : w1.cell? ⟨Y, 2, none⟩ = some (.int .i64 0) := K1.cell 2
  have c3 : w1.cell? ⟨Y, 3, none⟩ = some (.string ⟨#[]⟩) := K1.cell 3
  have f0 : w1.frozen? ⟨Y, 0, none⟩ = false := K1.free 0
  have f1 : w1.frozen? ⟨Y, 1, none⟩ = false := K1.free 1
  have f2 : w1.frozen? ⟨Y, 2, none⟩ = false := K1.free 2
  have f3 : w1.frozen? ⟨Y, 3, none⟩ = false := K1.free 3
  have KH := Lib.hid K1
  have BH := Lib.hid B1
  clear K1 B1
  go_wp2_with fail
  have K5 : Blk ((((w1.setCell ⟨Y, 0, none⟩ (.int .i64 0)).setCell ⟨Y, 1, none⟩ (.int .i64 0)).setCell ⟨Y, 2, none⟩ (.int .i64 0)).setCell ⟨Y, 3, none⟩ (.string ⟨#[]⟩)) Y 25 #[.int .i64 0, .int .i64 0, .int .i64 0, .string ⟨#[]⟩] := (((KH.out.set 0 _).set 1 _).set 2 _).set 3 _
  have hl := KH.out.lt
  have F5 := (((fr_set w1 Y 0 (.int .i64 0)).trans (fr_set _ Y 1 (.int .i64 0)) (R := fun q => q = Y) (fun _ _ h => h) (fun _ _ h => h)).trans (fr_set _ Y 2 (.int .i64 0)) (R := fun q => q = Y) (fun _ _ h => h) (fun _ _ h => h)).trans (fr_set _ Y 3 (.string ⟨#[]⟩)) (R := fun q => q = Y) (fun _ _ h => h) (fun _ _ h => h)
  have B5 := BH.out.trans (F5.below (B := Y) (fun q hq => Nat.le_of_eq hq.symm) (Nat.le_of_lt hl))
  clear c0 c1 c2 c3 f0 f1 f2 f3 KH BH F5 hl
  generalize (((w1.setCell ⟨Y, 0, none⟩ (.int .i64 0)).setCell ⟨Y, 1, none⟩ (.int .i64 0)).setCell ⟨Y, 2, none⟩ (.int .i64 0)).setCell ⟨Y, 3, none⟩ (.string ⟨#[]⟩) = w9 at *
  have z0 : w9.cell? ⟨Y, 0, none⟩ = some (.int .i64 0) := K5.cell 0
  have z1 : w9.cell? ⟨Y, 1, none⟩ = some (.int .i64 0) := K5.cell 1
  have z2 : w9.cell? ⟨Y, 2, none⟩ = some (.int .i64 0) := K5.cell 2
  have z3 : w9.cell? ⟨Y, 3, none⟩ = some (.string ⟨#[]⟩) := K5.cell 3
  refine bodyPost_ret (by simp [results, Try.results32, go_sem, z0, z1, z2, z3]; try rfl) rfl ?_
  exact ⟨rfl, B5⟩
end Go.Proofs.Ythdkflmkcoabaaa
/-
  A FIRST VOTE SAVED ON A NEW DISK: save, SaveVote.
-/
namespace Go.Proofs.Ythdkflmkcoabaaa
open Go.RowKit
def nV : Nm := ⟨#[118, 111, 116, 101]⟩
def nN : Nm := nV ++ ⟨#[46, 110, 101, 119]⟩
def bV : ByteArray := ⟨#[3, 2]⟩
def pV : ByteArray := Ct.packS bV
theorem nameV : nameB nV = true := by decide +kernel
theorem nameN : nameB nN = true := by decide +kernel
def aw1 : St := { st0 with row := st0.row ++ [.put nN 0 pV], now := (Chg.put nN 0 pV).doF st0.now, calls := st0.calls + 1 }
def aw2 : St := { aw1 with row := aw1.row ++ [.move nN nV], now := (Chg.move nN nV).doF aw1.now, calls := aw1.calls + 1 }
def aw3 : St := { aw2 with sure := doAll aw2.sure aw2.row, row := [], calls := aw2.calls + 1 }
theorem pV_size : pV.size = 9 := by unfold pV; rw [Ct.pack_size]; rfl
theorem vV : voteS 3 1 = bV := by decide +kernel
theorem unpV' : Ct.unp pV = (bV, ⟨#[]⟩, 0) := by decide +kernel
theorem rdV' : rdV bV = (3, 1, 0) := by decide +kernel
theorem e0 : findE st0 nN = 4 := by decide +kernel
theorem e1 : moveE aw1 nN nV = 0 := by decide +kernel
theorem mayM : (Chg.move nN nV).may aw1.now := ⟨by decide, by decide⟩
set_option maxHeartbeats 4000000 in
theorem save_aw {w : World} {B D : Nat} (d : Dsk w B D 0 st0) (hB : B ≤ w.heap.size) : Calls Try.prog 61 #[.pointer (some ⟨D, 0, none⟩), .string nV, .string bV] w fun e w' => e = .returned (.int .i64 0) ∧ Dsk w' B D 18 aw3 ∧ Ok aw3 ∧ Below B w w' := by
  have PK := Lib.hid (fun W => Ct.pack_any bV (by decide) W)
  rw [show Ct.packS bV = pV from rfl] at PK
  have DR := Lib.hid (fun W (h : Dsk W B D 0 st0) => dropn nN h (by decide) (by rw [e0]; decide))
  rw [e0] at DR
  have hp := pV_size
  have PT := Lib.hid (fun W (h : Dsk W B D 0 st0) => putd (n := 0) nN pV h ok0 (by decide) rfl rfl (by decide) nameN (Nat.zero_le _) (by omega))
  have MV := Lib.hid (fun W (h : Dsk W B D 5 aw1) (k : Ok aw1) => moved nN nV h k (by decide) rfl rfl nameN nameV e1 mayM)
  have SY := Lib.hid (fun W (h : Dsk W B D 12 aw2) (k : Ok aw2) => syncd h k (by decide) rfl rfl)
  have d0 := Lib.hid d
  clear d hp
  have sz0 : ¬ (9223372036854775807 < nV.size + 4) := by decide
  rw [show nN = nV ++ ⟨#[46, 110, 101, 119]⟩ from rfl] at DR MV
  have PT2 : Hid (∀ W, Dsk W B D 0 st0 → Calls Try.prog 79 #[.pointer (some ⟨D, 0, none⟩), .string (nV ++ ⟨#[46, 110, 101, 119]⟩), .int .i64 0, .string pV] W fun e w' => e = .returned (.int .i64 0) ∧ Dsk w' B D 5 aw1 ∧ Ok aw1 ∧ Below B W w') := PT
  have MV2 : Hid (∀ W, Dsk W B D 5 aw1 → Ok aw1 → Calls Try.prog 82 #[.pointer (some ⟨D, 0, none⟩), .string (nV ++ ⟨#[46, 110, 101, 119]⟩), .string nV] W fun e w' => e = .returned (.int .i64 0) ∧ Dsk w' B D 12 aw2 ∧ Ok aw2 ∧ Below B W w') := MV
  have SY2 : Hid (∀ W, Dsk W B D 12 aw2 → Ok aw2 → Calls Try.prog 81 #[.pointer (some ⟨D, 0, none⟩)] W fun e w' => e = .returned (.int .i64 0) ∧ Dsk w' B D 18 aw3 ∧ Ok aw3 ∧ Below B W w') := SY
  clear PT MV SY
  generalize nV = nv at *
  generalize bV = bv at *
  generalize pV = pv at *
  go_enter Try.func61, Try.ntmps61
  go_wp2_with fail
  refine (PK.out _).mono ?_
  rintro e w1 ⟨rfl, b1⟩
  have d1 := Lib.hid (d0.out.below b1)
  have B1 := Lib.hid (b1.mono hB)
  have DR1 := Lib.hid (DR.out _ d1.out)
  have PT1 := Lib.hid (PT2.out _ d1.out)
  clear b1 d0 PK DR PT2
  go_wp2_with fail
  refine DR1.out.mono ?_
  rintro e w2 ⟨rfl, rfl⟩
  go_wp2_with fail
  refine PT1.out.mono ?_
  rintro e w3 ⟨rfl, d3, k3, b3⟩
  have MV1 := Lib.hid (MV2.out _ d3 k3)
  have B3 := Lib.hid (B1.out.trans b3)
  clear d3 k3 b3 DR1 PT1 MV2 B1 d1
  go_wp2_with fail
  refine MV1.out.mono ?_
  rintro e w4 ⟨rfl, d4, k4, b4⟩
  have SY1 := Lib.hid (SY2.out _ d4 k4)
  have B4 := Lib.hid (B3.out.trans b4)
  clear d4 k4 b4 MV1 SY2 B3
  go_wp2_with fail
  refine SY1.out.mono ?_
  rintro e w5 ⟨rfl, d5, k5, b5⟩
  have B5 := Lib.hid (B4.out.trans b5)
  go_wp2_with fail
  go_ret
  exact ⟨rfl, d5, k5, B5.out⟩
end Go.Proofs.Ythdkflmkcoabaaa
/-
  SaveVote; Snap and SaveSnap where there is no disk.
-/
namespace Go.Proofs.Ythdkflmkcoabaaa
open Go.RowKit
theorem vote_any (t f : Int) (w : World) : ∃ s n, Calls Try.prog 10 #[voteV t f] w fun e w' => e = .returned (.tuple #[.string s, .int .i64 n]) ∧ Below w.heap.size w w' := by
  cases h : voteB t f
  · exact ⟨_, _, vote_no h w⟩
  · exact ⟨_, _, vote_ok h w⟩
set_option maxHeartbeats 4000000 in
/-- no disk -/
theorem saveVote_nil (t f : Int) (w : World) : Calls Try.prog 34 #[.pointer none, voteV t f] w fun e w' => e = .returned (.int .i64 1) ∧ Below w.heap.size w w' := by
  have bA := Lib.hid ((Below.refl _ w).alloc (Nat.le_refl _) (.cells #[.int .i64 t, .int .i64 f] 23))
  obtain ⟨s, n, V⟩ := vote_any t f (w.alloc (.cells #[.int .i64 t, .int .i64 f] 23))
  have V := Lib.hid V
  unfold voteV at *
  generalize hy : w.heap.size = Y at *
  go_enter Try.func34, Try.ntmps34
  go_wp2_with fail
  refine V.out.mono ?_
  rintro e w1 ⟨rfl, b1⟩
  have B1 := Lib.hid (bA.out.trans (b1.mono (by simp [hy])))
  clear b1 bA V
  go_wp2_with fail
  go_ret
  exact ⟨rfl, B1.out⟩
set_option maxHeartbeats 4000000 in
/-- the page's first vote, on a new disk -/
theorem saveVote_aw {w : World} {B D : Nat} (d : Dsk w B D 0 st0) (hB : B ≤ w.heap.size) : Calls Try.prog 34 #[.pointer (some ⟨D, 0, none⟩), voteV 3 1] w fun e w' => e = .returned (.int .i64 0) ∧ Dsk w' B D 18 aw3 ∧ Ok aw3 ∧ Below B w w' := by
  have bA := (Below.refl _ w).alloc (Nat.le_refl _) (.cells #[.int .i64 3, .int .i64 1] 23)
  have V := Lib.hid (vote_ok (t := 3) (f := 1) (by decide) (w.alloc (.cells #[.int .i64 3, .int .i64 1] 23)))
  rw [vV] at V
  have d1 := Lib.hid (d.below bA)
  have BA := Lib.hid (bA.mono hB)
  have hB1 := Nat.le_trans hB bA.size
  have SV := Lib.hid (fun W (h : Dsk W B D 0 st0) (hW : B ≤ W.heap.size) => save_aw h hW)
  unfold nV at SV
  clear d bA
  unfold voteV at *
  generalize bV = bv at *
  generalize hy : w.heap.size = Y at *
  go_enter Try.func34, Try.ntmps34
  go_wp2_with fail
  refine V.out.mono ?_
  rintro e w1 ⟨rfl, b1⟩
  have SV1 := Lib.hid (SV.out _ (d1.out.below b1) (Nat.le_trans hB1 b1.size))
  have B1 := Lib.hid (BA.out.trans (b1.mono hB1))
  clear b1 BA V d1 SV hB1
  go_wp2_with fail
  refine SV1.out.mono ?_
  rintro e w2 ⟨rfl, d2, k2, b2⟩
  have B2 := Lib.hid (B1.out.trans b2)
  go_wp2_with fail
  go_ret
  exact ⟨rfl, d2, k2, B2.out⟩
end Go.Proofs.Ythdkflmkcoabaaa
/-
  Snap, SaveSnap where there is no disk; SaveVote on a disk that is down.
-/
namespace Go.Proofs.Ythdkflmkcoabaaa
open Go.RowKit
def snapS (i t m : Int) (s : ByteArray) : ByteArray := Bt.numS i ++ Bt.numS t ++ Bt.numS m ++ Bt.textS s
theorem snapB_bd {i t m : Int} {s : ByteArray} (h : snapB i t m s = true) : 0 ≤ i ∧ i ≤ 549755813888 ∧ 0 ≤ t ∧ t ≤ 549755813888 ∧ 0 ≤ m ∧ m < 128 ∧ s.size ≤ 262144 := by
  unfold snapB idxB at h
  simp only [Bool.and_eq_true, decide_eq_true_eq] at h
  omega
set_option maxHeartbeats 1000000 in
theorem snap_no {i t m : Int} {s : ByteArray} (h : snapB i t m s = false) (w : World) : Calls Try.prog 12 #[snapV i t m s] w fun e w' => e = .returned (.tuple #[.string ⟨#[]⟩, .int .i64 1]) ∧ Below w.heap.size w w' := by
  have M := Lib.hid (fun W => snapMay_any i t m s W)
  rw [h] at M
  clear h
  unfold snapV at *
  go_enter Try.func12, Try.ntmps12
  go_wp2_with fail
  refine (M.out _).mono ?_
  rintro e w1 ⟨rfl, b1⟩
  have B1 := Lib.hid (((Below.refl _ w).alloc (Nat.le_refl _) (.cells #[.int .i64 i, .int .i64 t, .int .i64 m, .string s] 25)).trans (b1.mono (by simp)))
  clear b1
  go_wp2_with fail
  go_ret2
  exact ⟨rfl, B1.out⟩
set_option maxHeartbeats 4000000 in
theorem snap_ok {i t m : Int} {s : ByteArray} (h : snapB i t m s = true) (w : World) : Calls Try.prog 12 #[snapV i t m s] w fun e w' => e = .returned (.tuple #[.string (snapS i t m s), .int .i64 0]) ∧ Below w.heap.size w w' := by
  have M := Lib.hid (fun W => snapMay_any i t m s W)
  rw [h] at M
  obtain ⟨i0, i1, t0, t1, m0, m1, s1⟩ := snapB_bd h
  have NA := Lib.hid (fun W => Bt.num_any i i0 (by omega) W)
  have NB := Lib.hid (fun W => Bt.num_any t t0 (by omega) W)
  have NC := Lib.hid (fun W => Bt.num_any m m0 (by omega) W)
  have NK := Lib.hid (fun W => Bt.text_any s (by omega) W)
  have hA := Bt.numS_size i
  have hB := Bt.numS_size t
  have hC := Bt.numS_size m
  have hK : (Bt.textS s).size ≤ 262153 := by
    have := Bt.numS_size (s.size : Int)
    unfold Bt.textS
    rw [ByteArray.size_append]
    omega
  unfold snapS
  generalize Bt.numS i = A at *
  generalize Bt.numS t = A2 at *
  generalize Bt.numS m = A3 at *
  generalize Bt.textS s = K at *
  clear h
  unfold snapV at *
  generalize hy : w.heap.size = Y at *
  go_enter Try.func12, Try.ntmps12
  go_wp2_with fail
  refine (M.out _).mono ?_
  rintro e w1 ⟨rfl, b1⟩
  have K0 : Blk (w.alloc (.cells #[.int .i64 i, .int .i64 t, .int .i64 m, .string s] 25)) Y 25 #[.int .i64 i, .int .i64 t, .int .i64 m, .string s] := by rw [← hy]; exact Blk.new w 25 _
  have K1 := Lib.hid (K0.below b1 (by simp [hy]))
  have B1 := Lib.hid (((Below.refl Y w).alloc (Nat.le_of_eq hy.symm) (.cells #[.int .i64 i, .int .i64 t, .int .i64 m, .string s] 25)).trans (b1.mono (by simp [hy])))
  clear b1 K0
  go_wp2_with fail
  have d0 : w1.cell? ⟨Y, 0, none⟩ = some (.int .i64 i) := K1.out.cell 0
  have d1 : w1.cell? ⟨Y, 1, none⟩ = some (.int .i64 t) := K1.out.cell 1
  have d2 : w1.cell? ⟨Y, 2, none⟩ = some (.int .i64 m) := K1.out.cell 2
  have d3 : w1.cell? ⟨Y, 3, none⟩ = some (.string s) := K1.out.cell 3
  have x0 := fun d os => cell_regrown d0 d os
  have x1 := fun d os => cell_regrown d1 d os
  have x2 := fun d os => cell_regrown d2 d os
  have x3 := fun d os => cell_regrown d3 d os
  have C1 := Lib.hid (fun d os => Calls.regrown_of (d := d) (os := os) (NA.out (Go.Sort.grow (redrawn w1 d) os)))
  have C2 := Lib.hid (fun d os => Calls.regrown_of (d := d) (os := os) (NB.out (Go.Sort.grow (redrawn w1 d) os)))
  have C3 := Lib.hid (fun d os => Calls.regrown_of (d := d) (os := os) (NC.out (Go.Sort.grow (redrawn w1 d) os)))
  have C4 := Lib.hid (fun d os => Calls.regrown_of (d := d) (os := os) (NK.out (Go.Sort.grow (redrawn w1 d) os)))
  have q1 : ¬ (9223372036854775807 < A.size + A2.size) := by omega
  have q2 : ¬ (9223372036854775807 < A.size + A2.size + A3.size) := by omega
  have q3 : ¬ (9223372036854775807 < A.size + A2.size + A3.size + K.size) := by omega
  have u1 : IntKind.u64.wrap i = i := IntWalk.u64_in _ (by omega)
  have u2 : IntKind.u64.wrap t = t := IntWalk.u64_in _ (by omega)
  have u3 : IntKind.u64.wrap m = m := IntWalk.u64_in _ (by omega)
  refine wp_region_quiet_below Ct.mixed (by kernel_rfl) ?_
  repeat (quiet_step (first | (with_reducible exact C1.out _ _) | (with_reducible exact C2.out _ _) | (with_reducible exact C3.out _ _) | (with_reducible exact C4.out _ _)))
  refine wpQuiet_nil ?_
  intro _ hw'
  obtain ⟨⟨dq, osq⟩, hw''⟩ := hw'
  subst hw''
  have b3 := below_regrown w1 dq osq
  have B3h := Lib.hid (B1.out.trans (b3.mono (by have := B1.out.size; omega)))
  clear x0 x1 x2 x3 d0 d1 d2 d3 C1 C2 C3 C4 b3 u1 u2 u3 q1 q2 q3 NA NB NC NK
  generalize Go.Sort.grow (redrawn w1 dq) osq = w3 at *
  go_wp2_with fail
  go_ret2
  exact ⟨rfl, B3h.out⟩
theorem snap_any (i t m : Int) (s : ByteArray) (w : World) : ∃ x n, Calls Try.prog 12 #[snapV i t m s] w fun e w' => e = .returned (.tuple #[.string x, .int .i64 n]) ∧ Below w.heap.size w w' := by
  cases h : snapB i t m s
  · exact ⟨_, _, snap_no h w⟩
  · exact ⟨_, _, snap_ok h w⟩
set_option maxHeartbeats 4000000 in
theorem saveSnap_nil (i t m : Int) (s : ByteArray) (w : World) : Calls Try.prog 35 #[.pointer none, snapV i t m s] w fun e w' => e = .returned (.int .i64 1) ∧ Below w.heap.size w w' := by
  have bA := Lib.hid ((Below.refl _ w).alloc (Nat.le_refl _) (.cells #[.int .i64 i, .int .i64 t, .int .i64 m, .string s] 25))
  obtain ⟨x, n, V⟩ := snap_any i t m s (w.alloc (.cells #[.int .i64 i, .int .i64 t, .int .i64 m, .string s] 25))
  have V := Lib.hid V
  unfold snapV at *
  generalize hy : w.heap.size = Y at *
  go_enter Try.func35, Try.ntmps35
  go_wp2_with fail
  refine V.out.mono ?_
  rintro e w1 ⟨rfl, b1⟩
  have B1 := Lib.hid (bA.out.trans (b1.mono (by simp [hy])))
  clear b1 bA V
  go_wp2_with fail
  go_ret
  exact ⟨rfl, B1.out⟩
set_option maxHeartbeats 4000000 in
theorem save_down {w : World} {B D m : Nat} {S : St} (b : ByteArray) (hb : b.size ≤ 1048576) (d : Dsk w B D m S) (hd : S.down = true) : Calls Try.prog 61 #[.pointer (some ⟨D, 0, none⟩), .string nV, .string b] w fun e w' => e = .returned (.int .i64 8) ∧ Below w.heap.size w w' := by
  have PK := Lib.hid (fun W => Ct.pack_any b hb W)
  have hE : findE S nN = 8 := (findE_not7 S nN).2 hd
  have DR := Lib.hid (fun W (h : Dsk W B D m S) => dropn nN h (by decide) (by rw [hE]; decide))
  rw [hE] at DR
  have d0 := Lib.hid d
  clear d hE hd hb
  rw [show nN = nV ++ ⟨#[46, 110, 101, 119]⟩ from rfl] at DR
  have sz0 : ¬ (9223372036854775807 < nV.size + 4) := by decide
  generalize nV = nv at *
  generalize Ct.packS b = pv at *
  go_enter Try.func61, Try.ntmps61
  go_wp2_with fail
  refine (PK.out _).mono ?_
  rintro e w1 ⟨rfl, b1⟩
  have DR1 := Lib.hid (DR.out _ (d0.out.below b1))
  have B1 := Lib.hid b1
  clear b1 d0 PK DR
  go_wp2_with fail
  refine DR1.out.mono ?_
  rintro e w2 ⟨rfl, rfl⟩
  go_wp2_with fail
  go_ret
  exact ⟨rfl, B1.out⟩
set_option maxHeartbeats 4000000 in
theorem saveVote_down {w : World} {B D m : Nat} {S : St} (d : Dsk w B D m S) (hd : S.down = true) : Calls Try.prog 34 #[.pointer (some ⟨D, 0, none⟩), voteV 0 0] w fun e w' => e = .returned (.int .i64 8) ∧ Below w.heap.size w w' := by
  have bA := (Below.refl _ w).alloc (Nat.le_refl _) (.cells #[.int .i64 0, .int .i64 0] 23)
  have V := Lib.hid (vote_ok (t := 0) (f := 0) (by decide) (w.alloc (.cells #[.int .i64 0, .int .i64 0] 23)))
  have hz : (voteS 0 0).size ≤ 1048576 := by
    have := Bt.numS_size 0
    have h2 : (Bt.intS 0).size ≤ 9 := Bt.numS_size _
    unfold voteS
    rw [ByteArray.size_append]
    omega
  have d1 := Lib.hid (d.below bA)
  have SV := Lib.hid (fun W (h : Dsk W B D m S) => save_down (voteS 0 0) hz h hd)
  have BA := Lib.hid bA
  unfold nV at SV
  clear d bA hz hd
  unfold voteV at *
  generalize voteS 0 0 = bv at *
  generalize hy : w.heap.size = Y at *
  go_enter Try.func34, Try.ntmps34
  go_wp2_with fail
  refine V.out.mono ?_
  rintro e w1 ⟨rfl, b1⟩
  have SV1 := Lib.hid (SV.out _ (d1.out.below b1))
  have B1 := Lib.hid (BA.out.trans (b1.mono (by simp [hy])))
  clear b1 BA V d1 SV
  go_wp2_with fail
  refine SV1.out.mono ?_
  rintro e w2 ⟨rfl, b2⟩
  have B2 := Lib.hid (B1.out.trans (b2.mono (by have := B1.out.size; omega)))
  go_wp2_with fail
  go_ret
  exact ⟨rfl, B2.out⟩
end Go.Proofs.Ythdkflmkcoabaaa
/-
  A DISK AND ITS STATE, WITH BLOCKS OFF IT THAT STAY AS THEY WERE.
-/
namespace Go.Proofs.Ythdkflmkcoabaaa
open Go.RowKit
section
variable {w w' : World} {B D m : Nat} {S : St} {L L' : Lie} {Q : Nat → Prop}
def Off (w : World) (D : Nat) (L : Lie) (Q : Nat → Prop) : Prop := ∀ q, Q q → q < w.heap.size ∧ ¬ L.foot D q
def Stay (w w' : World) (Q : Nat → Prop) : Prop := ∀ q, Q q → w'.heap[q]? = w.heap[q]?
def DskQ (w : World) (B D m : Nat) (S : St) (Q : Nat → Prop) : Prop := ∃ L, DkL w B D m S L ∧ Off w D L Q
theorem Off.step (h : Off w D L Q) (F : Fr w w' (L.foot D)) (hN : ∀ q, L'.foot D q → L.foot D q ∨ w.heap.size ≤ q) : Off w' D L' Q ∧ Stay w w' Q := by
  refine ⟨fun q hq => ⟨Nat.lt_of_lt_of_le (h q hq).1 F.size, fun hf => ?_⟩, fun q hq => F.block q (h q hq).1 (h q hq).2⟩
  rcases hN q hf with hh | hh
  · exact (h q hq).2 hh
  · have := (h q hq).1; omega
theorem Stay.trans {a b c : World} (h : Stay a b Q) (k : Stay b c Q) : Stay a c Q := fun q hq => (k q hq).trans (h q hq)
theorem DskQ.below (h : DskQ w B D m S Q) (hb : Below w.heap.size w w') : DskQ w' B D m S Q ∧ Stay w w' Q := by
  obtain ⟨L, h, o⟩ := h
  exact ⟨⟨L, h.below hb, fun q hq => ⟨Nat.lt_of_lt_of_le (o q hq).1 hb.size, (o q hq).2⟩⟩, fun q hq => hb.block q (o q hq).1⟩
theorem DskQ.dsk (h : DskQ w B D m S Q) : Dsk w B D m S := by
  obtain ⟨L, h, _⟩ := h
  exact ⟨L, h⟩
/-- a block that is new is off the disk -/
theorem DskQ.more (h : DskQ w B D m S Q) (v : Obj) : DskQ (w.alloc v) B D m S (fun q => Q q ∨ q = w.heap.size) := by
  obtain ⟨L, h, o⟩ := h
  have hb := (Below.refl w.heap.size w).alloc (Nat.le_refl _) v
  refine ⟨L, h.below hb, fun q hq => ?_⟩
  rcases hq with hq | rfl
  · exact ⟨Nat.lt_of_lt_of_le (o q hq).1 hb.size, (o q hq).2⟩
  · exact ⟨by simp, fun hf => by have := (h.lt hf).2; omega⟩
theorem putq {n : Nat} (f s : Nm) (h : DskQ w B D m S Q) (ok : Ok S) (hm : m + 2 * S.row.length < 99990) (hd : S.down = false) (ht : S.trip = 0) (hr : S.room < 0) (hn : nameB f = true) (hl : n ≤ (gl S.now f).length) (h4 : n + s.size ≤ 4194304) :
    Calls Try.prog 79 #[.pointer (some ⟨D, 0, none⟩), .string f, .int .i64 n, .string s] w fun e w' => e = .returned (.int .i64 0) ∧
      DskQ w' B D (m + 2 * S.row.length + 5) { S with row := S.row ++ [.put f n s], now := (Chg.put f n s).doF S.now, calls := S.calls + 1 } Q ∧
      Ok { S with row := S.row ++ [.put f n s], now := (Chg.put f n s).doF S.now, calls := S.calls + 1 } ∧ Below B w w' ∧ Stay w w' Q := by
  obtain ⟨L, h, o⟩ := h
  have h64 := (nameB_size hn).2
  have hc : (Chg.put f n s).may S.now := ⟨h64, hl, h4⟩
  refine (put_yes f s n h hd (by omega) (fun hb => ?_) (fun hb => ?_) (mayAll_append ok.may (ok.now.may hc)) hc (by omega) ok.trip ok.keep).mono fun e w' hh => ?_
  · rcases hb with hb | hb | hb | hb
    · rw [hn] at hb; cases hb
    · omega
    · omega
    · omega
  · have := hb.1; omega
  · obtain ⟨S', L', x, rfl, d, hcnt, F, hN⟩ := hh
    have k := Counted.ok (S := { S with row := S.row ++ [.put f n s], now := (Chg.put f n s).doF S.now }) (mayAll_append ok.may (ok.now.may hc)) (by simp only [doAll_append]; exact ok.now.doF _) ok.trip ok.keep hd hcnt
    rcases hcnt with ⟨_, rfl, e⟩ | ⟨e, _⟩
    · simp only [ht, if_true] at e
      have e' : S' = { S with row := S.row ++ [.put f n s], now := (Chg.put f n s).doF S.now, calls := S.calls + 1 } := by rw [e, ← ht]
      rw [e'] at d k
      exact ⟨rfl, ⟨L', d.mono (by omega) (by omega), (o.step F hN).1⟩, k.1, Fr.foot h F, (o.step F hN).2⟩
    · simp only at e; omega
theorem moveq (f t : Nm) (h : DskQ w B D m S Q) (ok : Ok S) (hm : m + 2 * S.row.length < 99990) (hd : S.down = false) (ht : S.trip = 0) (hn : nameB f = true) (hn2 : nameB t = true) (hE : moveE S f t = 0) (hc : (Chg.move f t).may S.now) :
    Calls Try.prog 82 #[.pointer (some ⟨D, 0, none⟩), .string f, .string t] w fun e w' => e = .returned (.int .i64 0) ∧
      DskQ w' B D (m + 2 * S.row.length + 5) { S with row := S.row ++ [.move f t], now := (Chg.move f t).doF S.now, calls := S.calls + 1 } Q ∧
      Ok { S with row := S.row ++ [.move f t], now := (Chg.move f t).doF S.now, calls := S.calls + 1 } ∧ Below B w w' ∧ Stay w w' Q := by
  obtain ⟨L, h, o⟩ := h
  have h64 := (nameB_size hn).2
  have h65 := (nameB_size hn2).2
  refine (move_yes f t h (by omega) (by omega) hE hd (mayAll_append ok.may (ok.now.may hc)) hc (by omega) ok.trip ok.keep).mono fun e w' hh => ?_
  obtain ⟨S', L', x, rfl, d, hcnt, F, hN⟩ := hh
  have k := Counted.ok (S := { S with row := S.row ++ [.move f t], now := (Chg.move f t).doF S.now }) (mayAll_append ok.may (ok.now.may hc)) (by simp only [doAll_append]; exact ok.now.doF _) ok.trip ok.keep hd hcnt
  rcases hcnt with ⟨_, rfl, e⟩ | ⟨e, _⟩
  · simp only [ht, if_true] at e
    have e' : S' = { S with row := S.row ++ [.move f t], now := (Chg.move f t).doF S.now, calls := S.calls + 1 } := by rw [e, ← ht]
    rw [e'] at d k
    exact ⟨rfl, ⟨L', d.mono (by omega) (by omega), (o.step F hN).1⟩, k.1, Fr.foot h F, (o.step F hN).2⟩
  · simp only at e; omega
theorem syncq (h : DskQ w B D m S Q) (ok : Ok S) (hm : m + 2 * S.row.length < 99990) (hd : S.down = false) (ht : S.trip = 0) :
    Calls Try.prog 81 #[.pointer (some ⟨D, 0, none⟩)] w fun e w' => e = .returned (.int .i64 0) ∧
      DskQ w' B D (m + 2 * S.row.length + 2) { S with sure := doAll S.sure S.row, row := [], calls := S.calls + 1 } Q ∧ Ok { S with sure := doAll S.sure S.row, row := [], calls := S.calls + 1 } ∧ Below B w w' ∧ Stay w w' Q := by
  obtain ⟨L, h, o⟩ := h
  refine (sync_any h hd ok.may hm ok.trip ok.keep).mono fun e w' hh => ?_
  obtain ⟨S1, S', L', x, rfl, d, hcnt, hS', F, hN⟩ := hh
  rcases hcnt with ⟨_, rfl, e⟩ | ⟨e, _⟩
  · simp only [ht, if_true] at e
    have e' : S' = { S with sure := doAll S.sure S.row, row := [], calls := S.calls + 1 } := by rw [hS', if_pos rfl, e, ← ht]
    rw [e'] at d
    exact ⟨rfl, ⟨L', d, (o.step F hN).1⟩, ⟨trivial, ok.now, ok.trip, ok.keep, fun _ => rfl⟩, Fr.foot h F, (o.step F hN).2⟩
  · omega
end
end Go.Proofs.Ythdkflmkcoabaaa
/-
  A FIRST VOTE SAVED ON A NEW DISK: what lies off the disk stays.
-/
namespace Go.Proofs.Ythdkflmkcoabaaa
open Go.RowKit
set_option maxHeartbeats 4000000 in
theorem save_awq {w : World} {B D : Nat} {Q : Nat → Prop} (d : DskQ w B D 0 st0 Q) (hB : B ≤ w.heap.size) : Calls Try.prog 61 #[.pointer (some ⟨D, 0, none⟩), .string nV, .string bV] w fun e w' => e = .returned (.int .i64 0) ∧ DskQ w' B D 18 aw3 Q ∧ Ok aw3 ∧ Below B w w' ∧ Stay w w' Q := by
  have PK := Lib.hid (fun W => Ct.pack_any bV (by decide) W)
  rw [show Ct.packS bV = pV from rfl] at PK
  have DR := Lib.hid (fun W (h : DskQ W B D 0 st0 Q) => dropn nN h.dsk (by decide) (by rw [e0]; decide))
  rw [e0] at DR
  have hp := pV_size
  have PT := Lib.hid (fun W (h : DskQ W B D 0 st0 Q) => putq (n := 0) nN pV h ok0 (by decide) rfl rfl (by decide) nameN (Nat.zero_le _) (by omega))
  have MV := Lib.hid (fun W (h : DskQ W B D 5 aw1 Q) (k : Ok aw1) => moveq nN nV h k (by decide) rfl rfl nameN nameV e1 mayM)
  have SY := Lib.hid (fun W (h : DskQ W B D 12 aw2 Q) (k : Ok aw2) => syncq h k (by decide) rfl rfl)
  have d0 := Lib.hid d
  clear d hp
  have sz0 : ¬ (9223372036854775807 < nV.size + 4) := by decide
  rw [show nN = nV ++ ⟨#[46, 110, 101, 119]⟩ from rfl] at DR MV
  have PT2 : Hid (∀ W, DskQ W B D 0 st0 Q → Calls Try.prog 79 #[.pointer (some ⟨D, 0, none⟩), .string (nV ++ ⟨#[46, 110, 101, 119]⟩), .int .i64 0, .string pV] W fun e w' => e = .returned (.int .i64 0) ∧ DskQ w' B D 5 aw1 Q ∧ Ok aw1 ∧ Below B W w' ∧ Stay W w' Q) := PT
  have MV2 : Hid (∀ W, DskQ W B D 5 aw1 Q → Ok aw1 → Calls Try.prog 82 #[.pointer (some ⟨D, 0, none⟩), .string (nV ++ ⟨#[46, 110, 101, 119]⟩), .string nV] W fun e w' => e = .returned (.int .i64 0) ∧ DskQ w' B D 12 aw2 Q ∧ Ok aw2 ∧ Below B W w' ∧ Stay W w' Q) := MV
  have SY2 : Hid (∀ W, DskQ W B D 12 aw2 Q → Ok aw2 → Calls Try.prog 81 #[.pointer (some ⟨D, 0, none⟩)] W fun e w' => e = .returned (.int .i64 0) ∧ DskQ w' B D 18 aw3 Q ∧ Ok aw3 ∧ Below B W w' ∧ Stay W w' Q) := SY
  clear PT MV SY
  generalize nV = nv at *
  generalize bV = bv at *
  generalize pV = pv at *
  go_enter Try.func61, Try.ntmps61
  go_wp2_with fail
  refine (PK.out _).mono ?_
  rintro e w1 ⟨rfl, b1⟩
  have d1 := Lib.hid (d0.out.below b1)
  have B1 := Lib.hid (b1.mono hB)
  have DR1 := Lib.hid (DR.out _ d1.out.1)
  have PT1 := Lib.hid (PT2.out _ d1.out.1)
  clear b1 d0 PK DR PT2
  go_wp2_with fail
  refine DR1.out.mono ?_
  rintro e w2 ⟨rfl, rfl⟩
  go_wp2_with fail
  refine PT1.out.mono ?_
  rintro e w3 ⟨rfl, d3, k3, b3, s3⟩
  have MV1 := Lib.hid (MV2.out _ d3 k3)
  have B3 := Lib.hid (B1.out.trans b3)
  have S3 := Lib.hid (d1.out.2.trans s3)
  clear d3 k3 b3 s3 DR1 PT1 MV2 B1 d1
  go_wp2_with fail
  refine MV1.out.mono ?_
  rintro e w4 ⟨rfl, d4, k4, b4, s4⟩
  have SY1 := Lib.hid (SY2.out _ d4 k4)
  have B4 := Lib.hid (B3.out.trans b4)
  have S4 := Lib.hid (S3.out.trans s4)
  clear d4 k4 b4 s4 MV1 SY2 B3 S3
  go_wp2_with fail
  refine SY1.out.mono ?_
  rintro e w5 ⟨rfl, d5, k5, b5, s5⟩
  have B5 := Lib.hid (B4.out.trans b5)
  have S5 := Lib.hid (S4.out.trans s5)
  have d5h := Lib.hid d5
  have k5h := Lib.hid k5
  clear d5 k5 b5 s5 B4 S4 SY1
  go_wp2_with fail
  go_ret
  exact ⟨rfl, d5h.out, k5h.out, B5.out, S5.out⟩
set_option maxHeartbeats 4000000 in
theorem saveVote_awq {w : World} {B D : Nat} {Q : Nat → Prop} (d : DskQ w B D 0 st0 Q) (hB : B ≤ w.heap.size) : Calls Try.prog 34 #[.pointer (some ⟨D, 0, none⟩), voteV 3 1] w fun e w' => e = .returned (.int .i64 0) ∧ DskQ w' B D 18 aw3 Q ∧ Ok aw3 ∧ Below B w w' ∧ Stay w w' Q := by
  have bA := (Below.refl _ w).alloc (Nat.le_refl _) (.cells #[.int .i64 3, .int .i64 1] 23)
  have V := Lib.hid (vote_ok (t := 3) (f := 1) (by decide) (w.alloc (.cells #[.int .i64 3, .int .i64 1] 23)))
  rw [vV] at V
  have d1 := Lib.hid (d.below bA)
  have BA := Lib.hid (bA.mono hB)
  have hB1 := Nat.le_trans hB bA.size
  have SV := Lib.hid (fun W (h : DskQ W B D 0 st0 Q) (hW : B ≤ W.heap.size) => save_awq h hW)
  unfold nV at SV
  clear d bA
  unfold voteV at *
  generalize bV = bv at *
  generalize hy : w.heap.size = Y at *
  go_enter Try.func34, Try.ntmps34
  go_wp2_with fail
  refine V.out.mono ?_
  rintro e w1 ⟨rfl, b1⟩
  have dd := d1.out.1.below b1
  have SV1 := Lib.hid (SV.out _ dd.1 (Nat.le_trans hB1 b1.size))
  have S1 := Lib.hid (d1.out.2.trans dd.2)
  have B1 := Lib.hid (BA.out.trans (b1.mono hB1))
  clear b1 BA V d1 SV hB1 dd
  go_wp2_with fail
  refine SV1.out.mono ?_
  rintro e w2 ⟨rfl, d2, k2, b2, s2⟩
  have B2 := Lib.hid (B1.out.trans b2)
  have S2 := Lib.hid (S1.out.trans s2)
  have d2h := Lib.hid d2
  have k2h := Lib.hid k2
  clear d2 k2 b2 s2 B1 S1 SV1
  go_wp2_with fail
  go_ret
  exact ⟨rfl, d2h.out, k2h.out, B2.out, S2.out⟩
end Go.Proofs.Ythdkflmkcoabaaa
/-
  THE SHELF AWAKE.
-/
namespace Go.Proofs.Ythdkflmkcoabaaa
open Go.RowKit
def nS : Nm := ⟨#[115, 110, 97, 112]⟩
theorem rd0V : (readV st0 nV).2 = 4 := by decide +kernel
theorem rd0S : (readV st0 nS).2 = 4 := by decide +kernel
theorem rd3V : readV aw3 nV = (pV, 0) := by decide +kernel
/-- LoadVote on a disk that has none -/
theorem lv0 {w : World} {B D m : Nat} {S : St} (d : Dsk w B D m S) (h : (readV S nV).2 = 4) : Calls Try.prog 31 #[.pointer (some ⟨D, 0, none⟩)] w fun e w' => e = .returned (.tuple #[voteV 0 (-1), .int .i64 0]) ∧ Below w.heap.size w w' :=
  loadVote_of (t := 0) (f := 0) (n := 0) (b := false) fun W bW => load_err (n := 4) (x := (readV S nV).1) (fun W' bW' => by
    have := readd ((d.below bW).below bW') nV (by decide)
    rw [h] at this
    exact this) (by decide)
theorem ls0 {w : World} {B D m : Nat} {S : St} (d : Dsk w B D m S) (h : (readV S nS).2 = 4) : Calls Try.prog 32 #[.pointer (some ⟨D, 0, none⟩)] w fun e w' => e = .returned (.tuple #[snapV 0 0 0 ⟨#[]⟩, .bool false, .int .i64 0]) ∧ Below w.heap.size w w' :=
  loadSnap_of (n := 0) fun W bW => loadS_err (n := 4) (x := (readV S nS).1) (fun W' bW' => by
    have := readd ((d.below bW).below bW') nS (by decide)
    rw [h] at this
    exact this) (by decide)
theorem lv3 {w : World} {B D m : Nat} (d : Dsk w B D m aw3) : Calls Try.prog 31 #[.pointer (some ⟨D, 0, none⟩)] w fun e w' => e = .returned (.tuple #[voteV 3 1, .int .i64 0]) ∧ Below w.heap.size w w' :=
  loadVote_of (t := 3) (f := 1) (n := 0) (b := true) fun W bW => load_ok (x := pV) (b := bV) (fun W' bW' => by
    have := readd ((d.below bW).below bW') nV (by decide)
    rw [rd3V] at this
    exact this) (by rw [pV_size]; decide) (by decide) unpV' rdV'
theorem Dsk.q {w : World} {B D m : Nat} {S : St} (d : Dsk w B D m S) : DskQ w B D m S (fun _ => False) := by
  obtain ⟨L, h⟩ := d
  exact ⟨L, h, fun q hq => hq.elim⟩
set_option maxHeartbeats 8000000 in
theorem awake_any (w : World) : Calls Try.prog 9 #[] w fun e w' => e = .returned (.bool true) ∧ Below w.heap.size w w' := by
  have L0 := Lib.hid (fun W B D (d : Dsk W B D 0 st0) => lv0 d rd0V)
  have T0 := Lib.hid (fun W B D (d : Dsk W B D 0 st0) => ls0 d rd0S)
  have L3 := Lib.hid (fun W B D (d : Dsk W B D 18 aw3) => lv3 d)
  have SV := Lib.hid (fun W B D Q (d : DskQ W B D 0 st0 Q) (hB : B ≤ W.heap.size) => saveVote_awq d hB)
  unfold voteV snapV at *
  go_enter Try.func9, Try.ntmps9
  go_wp2_with fail
  refine (newd _).mono ?_
  rintro e w1 ⟨D, rfl, d1, b1⟩
  have q1 := Lib.hid (d1.q)
  have B1 := Lib.hid b1
  have C1 := Lib.hid (L0.out _ _ _ d1)
  clear d1 b1
  go_wp2_with fail
  refine C1.out.mono ?_
  rintro e w2 ⟨rfl, b2⟩
  have q2 := (q1.out.below b2).1
  have B2 := B1.out.trans (b2.mono B1.out.size)
  have N3 := Lib.hid (Blk.new w2 23 #[.int .i64 0, .int .i64 (-1)])
  have q3 := Lib.hid (q2.more (.cells #[.int .i64 0, .int .i64 (-1)] 23))
  have B3 := Lib.hid (B2.alloc B2.size (.cells #[.int .i64 0, .int .i64 (-1)] 23))
  have C3 := Lib.hid (T0.out _ _ _ q3.out.dsk)
  clear b2 q1 B1 q2 B2 C1 L0 T0
  go_wp2_with fail
  refine C3.out.mono ?_
  rintro e w4 ⟨rfl, b4⟩
  have q4 := (q3.out.below b4).1
  have N4 := N3.out.below b4 N3.out.lt
  have B4 := B3.out.trans (b4.mono B3.out.size)
  have bS := (Below.refl w4.heap.size w4).alloc (Nat.le_refl _) (.cells #[.int .i64 0, .int .i64 0, .int .i64 0, .string ⟨#[]⟩] 25)
  have N5 := Lib.hid (N4.below bS N4.lt)
  have M5 := Lib.hid (Blk.new w4 25 #[.int .i64 0, .int .i64 0, .int .i64 0, .string ⟨#[]⟩])
  have q5 := Lib.hid (q4.more (.cells #[.int .i64 0, .int .i64 0, .int .i64 0, .string ⟨#[]⟩] 25))
  have B5 := Lib.hid (B4.alloc B4.size (.cells #[.int .i64 0, .int .i64 0, .int .i64 0, .string ⟨#[]⟩] 25))
  have C5 := Lib.hid (SV.out _ _ _ _ q5.out B5.out.size)
  clear b4 q4 N4 B4 bS N3 q3 B3 C3 SV
  go_wp2_with fail
  refine C5.out.mono ?_
  rintro e w6 ⟨rfl, q6, k6, b6, s6⟩
  have N6 := Lib.hid (show Blk w6 w2.heap.size 23 #[.int .i64 0, .int .i64 (-1)] from (s6 _ (.inl (.inr rfl))).trans N5.out)
  have M6 := Lib.hid (show Blk w6 w4.heap.size 25 #[.int .i64 0, .int .i64 0, .int .i64 0, .string ⟨#[]⟩] from (s6 _ (.inr rfl)).trans M5.out)
  have B6 := Lib.hid (B5.out.trans b6)
  have C6 := Lib.hid (L3.out _ _ _ q6.dsk)
  clear q6 k6 b6 s6 N5 M5 q5 B5 C5 L3
  generalize w2.heap.size = Yv at *
  generalize w4.heap.size = Ys at *
  go_wp2_with fail
  refine C6.out.mono ?_
  rintro e w7 ⟨rfl, b7⟩
  have N7 := N6.out.below b7 N6.out.lt
  have B7 := Lib.hid (B6.out.trans (b7.mono B6.out.size))
  clear b7 N6 M6 B6 C6
  have h7 : Yv < w7.heap.size := N7.lt
  have c0 : w7.cell? ⟨Yv, 0, none⟩ = some (.int .i64 0) := N7.cell 0
  have c1 : w7.cell? ⟨Yv, 1, none⟩ = some (.int .i64 (-1)) := N7.cell 1
  clear N7
  go_wp2_with fail
  go_ret
  exact ⟨rfl, B7.out.alloc B7.out.size _⟩
end Go.Proofs.Ythdkflmkcoabaaa
/-
  THE LAW ShelfNil AS A WALK.
-/
namespace Go.Proofs.Ythdkflmkcoabaaa
open Go.RowKit
theorem lvn (w : World) : Calls Try.prog 31 #[.pointer none] w fun e w' => e = .returned (.tuple #[voteV 0 0, .int .i64 1]) ∧ Below w.heap.size w w' :=
  loadVote_of (t := 0) (f := 0) (n := 1) (b := false) fun W _ => load_err (n := 1) (x := str []) (fun W' _ => read_nil nV W') (by decide)
theorem lsn (w : World) : Calls Try.prog 32 #[.pointer none] w fun e w' => e = .returned (.tuple #[snapV 0 0 0 ⟨#[]⟩, .bool false, .int .i64 1]) ∧ Below w.heap.size w w' :=
  loadSnap_of (n := 1) fun W _ => loadS_err (n := 1) (x := str []) (fun W' _ => read_nil nS W') (by decide)
theorem read8 {S : St} (s : Nm) (hd : S.down = true) : (readV S s).2 = 8 := by
  unfold readV
  rw [hd, if_pos rfl]
theorem lvd {w : World} {B D m : Nat} {S : St} (d : Dsk w B D m S) (hd : S.down = true) : Calls Try.prog 31 #[.pointer (some ⟨D, 0, none⟩)] w fun e w' => e = .returned (.tuple #[voteV 0 0, .int .i64 8]) ∧ Below w.heap.size w w' :=
  loadVote_of (t := 0) (f := 0) (n := 8) (b := false) fun W bW => load_err (n := 8) (x := (readV S nV).1) (fun W' bW' => by
    have := readd ((d.below bW).below bW') nV (by decide)
    rw [read8 nV hd] at this
    exact this) (by decide)
theorem lsd {w : World} {B D m : Nat} {S : St} (d : Dsk w B D m S) (hd : S.down = true) : Calls Try.prog 32 #[.pointer (some ⟨D, 0, none⟩)] w fun e w' => e = .returned (.tuple #[snapV 0 0 0 ⟨#[]⟩, .bool false, .int .i64 8]) ∧ Below w.heap.size w w' :=
  loadSnap_of (n := 8) fun W bW => loadS_err (n := 8) (x := (readV S nS).1) (fun W' bW' => by
    have := readd ((d.below bW).below bW') nS (by decide)
    rw [read8 nS hd] at this
    exact this) (by decide)
structure Nl (w W : World) (B D m : Nat) (S : St) (v x : Array Value) : Prop where
  d : Dsk W B D m S
  v : Blk W w.heap.size 23 v
  x : Blk W (w.heap.size + 1) 25 x
  b : Below w.heap.size w W
theorem Nl.step {w W W' : World} {B D m : Nat} {S : St} {v x : Array Value} (h : Nl w W B D m S v x) (hb : Below W.heap.size W W') : Nl w W' B D m S v x :=
  ⟨h.d.below hb, h.v.below hb h.v.lt, h.x.below hb h.x.lt, h.b.trans (hb.mono h.b.size)⟩
theorem Nl.al {w W : World} {B D m : Nat} {S : St} {v x : Array Value} (h : Nl w W B D m S v x) (o : Obj) : Nl w (W.alloc o) B D m S v x := h.step ((Below.refl _ W).alloc (Nat.le_refl _) o)
set_option maxHeartbeats 16000000 in
theorem nil_law (a b i t m : Int) (s : ByteArray) (w : World) : Calls Try.prog 8 #[voteV a b, snapV i t m s] w fun e w' => e = .returned (.bool true) ∧ Below w.heap.size w w' := by
  have LD := Lib.hid (fun W B D m S (d : Dsk W B D m S) (h : S.down = true) => lvd d h)
  have LS := Lib.hid (fun W B D m S (d : Dsk W B D m S) (h : S.down = true) => lsd d h)
  have LN := Lib.hid lvn
  have LSN := Lib.hid lsn
  have PK := Lib.hid (fun W => Ct.rpack_any ⟨#[]⟩ (by decide) W)
  have hp : (Ct.packS ⟨#[]⟩).size = 7 := by rw [Ct.pack_size]; rfl
  have VN := Lib.hid (fun W => saveVote_nil a b W)
  have SN := Lib.hid (fun W => saveSnap_nil i t m s W)
  have VD := Lib.hid (fun W B D m S (d : Dsk W B D m S) (h : S.down = true) => saveVote_down d h)
  generalize Ct.packS ⟨#[]⟩ = pk at *
  have V0 := Blk.new w 23 #[.int .i64 a, .int .i64 b]
  have bA := (Below.refl _ w).alloc (Nat.le_refl _) (.cells #[.int .i64 a, .int .i64 b] 23)
  have bB := (Below.refl _ (w.alloc (.cells #[.int .i64 a, .int .i64 b] 23))).alloc (Nat.le_refl _) (.cells #[.int .i64 i, .int .i64 t, .int .i64 m, .string s] 25)
  have V1 := Lib.hid (V0.below bB V0.lt)
  have S1 := Lib.hid (Blk.new (w.alloc (.cells #[.int .i64 a, .int .i64 b] 23)) 25 #[.int .i64 i, .int .i64 t, .int .i64 m, .string s])
  have B1 := Lib.hid (bA.trans (bB.mono bA.size))
  have hs1 : (w.alloc (.cells #[.int .i64 a, .int .i64 b] 23)).heap.size = w.heap.size + 1 := by simp
  rw [hs1] at S1
  clear V0 bA bB hs1
  unfold voteV snapV at *
  go_enter Try.func8, Try.ntmps8
  go_wp2_with fail
  refine (newd _).mono ?_
  rintro e w1 ⟨D, rfl, d1, b1⟩
  have F1 := Lib.hid (faild 0 d1 ok0 (by decide) (by decide))
  have V2 := Lib.hid (V1.out.below b1 V1.out.lt)
  have S2 := Lib.hid (S1.out.below b1 S1.out.lt)
  have B2 := Lib.hid (B1.out.trans (b1.mono B1.out.size))
  have hv := V1.out.lt
  have hx := S1.out.lt
  clear b1 d1 V1 S1 B1
  go_wp2_with fail
  refine F1.out.mono ?_
  rintro e w2 ⟨rfl, S, d2, k2, hd, _, _, b2⟩
  have N2 : Nl w w2 _ D _ S _ _ := ⟨d2, V2.out.below b2 hv, S2.out.below b2 hx, B2.out.trans (b2.mono (by omega))⟩
  have N2 := Lib.hid N2
  clear d2 k2 b2 F1 V2 S2 B2 hv hx
  go_wp2_with fail
  refine (LN.out _).mono ?_
  rintro e w3 ⟨rfl, b3⟩
  have N3 := Lib.hid ((N2.out.step b3).al (.cells #[.int .i64 0, .int .i64 0] 23))
  clear b3 N2
  go_wp2_with fail
  refine (LSN.out _).mono ?_
  rintro e w4 ⟨rfl, b4⟩
  have N4 := Lib.hid ((N3.out.step b4).al (.cells #[.int .i64 0, .int .i64 0, .int .i64 0, .string ⟨#[]⟩] 25))
  clear b4 N3
  go_wp2_with fail
  refine (LD.out _ _ _ _ _ N4.out.d hd).mono ?_
  rintro e w5 ⟨rfl, b5⟩
  have N5 := Lib.hid ((N4.out.step b5).al (.cells #[.int .i64 0, .int .i64 0] 23))
  clear b5 N4
  go_wp2_with fail
  refine (LS.out _ _ _ _ _ N5.out.d hd).mono ?_
  rintro e w6 ⟨rfl, b6⟩
  have N6 := Lib.hid ((N5.out.step b6).al (.cells #[.int .i64 0, .int .i64 0, .int .i64 0, .string ⟨#[]⟩] 25))
  clear b6 N5
  go_wp2_with fail
  refine (PK.out _).mono ?_
  rintro e w7 ⟨rfl, b7⟩
  have N7 := Lib.hid (N6.out.step b7)
  clear b7 N6
  go_wp2_with fail
  refine (awake_any _).mono ?_
  rintro e w8 ⟨rfl, b8⟩
  have N8 := Lib.hid (N7.out.step b8)
  clear b8 N7
  have c0 : w8.cell? ⟨w.heap.size, 0, none⟩ = some (.int .i64 a) := N8.out.v.cell 0
  have c1 : w8.cell? ⟨w.heap.size, 1, none⟩ = some (.int .i64 b) := N8.out.v.cell 1
  go_wp2_with fail
  refine (VN.out _).mono ?_
  rintro e w9 ⟨rfl, b9⟩
  have N9 := Lib.hid (N8.out.step b9)
  clear b9 N8 c0 c1
  have c0 : w9.cell? ⟨w.heap.size + 1, 0, none⟩ = some (.int .i64 i) := N9.out.x.cell 0
  have c1 : w9.cell? ⟨w.heap.size + 1, 1, none⟩ = some (.int .i64 t) := N9.out.x.cell 1
  have c2 : w9.cell? ⟨w.heap.size + 1, 2, none⟩ = some (.int .i64 m) := N9.out.x.cell 2
  have c3 : w9.cell? ⟨w.heap.size + 1, 3, none⟩ = some (.string s) := N9.out.x.cell 3
  go_wp2_with fail
  refine (SN.out _).mono ?_
  rintro e wa ⟨rfl, ba⟩
  have Na := Lib.hid (N9.out.step ba)
  clear ba N9 c0 c1 c2 c3
  go_wp2_with fail
  refine (VD.out _ _ _ _ _ Na.out.d hd).mono ?_
  rintro e wb ⟨rfl, bb⟩
  have Nb := Lib.hid (Na.out.step bb)
  clear bb Na
  have hp' : ((pk.size : Int) == 7) = true := by rw [hp]; rfl
  go_wp2_with fail
  go_ret
  exact ⟨by simp, Nb.out.b⟩
end Go.Proofs.Ythdkflmkcoabaaa
/-
  THE DOCUMENT'S OWN VOTES AND SNAPSHOTS: which may be, and their texts.
-/
namespace Go.Proofs.Ythdkflmkcoabaaa
open Go.RowKit
theorem ret_b {a b : Bool} (h : a = b) : Ending.returned (.bool a) = .returned (.bool b) := by rw [h]
set_option maxHeartbeats 2000000 in
theorem voted_any (t f : Int) (w : World) : Calls Try.prog 21 #[voteV t f] w fun e w' => e = .returned (.bool (voteB t f)) ∧ Below w.heap.size w w' := by
  have R : ∃ b, voteB t f = b ∧ (b = true ↔ (0 ≤ t ∧ t ≤ 549755813888 ∧ -1 ≤ f ∧ f ≤ 6)) := ⟨_, rfl, by unfold voteB idxB; simp only [Bool.and_eq_true, decide_eq_true_eq]; omega⟩
  obtain ⟨b, hb, R⟩ := R
  rw [hb]
  have RH := Lib.hid R
  clear R hb
  unfold voteV
  by_cases h0 : 0 ≤ t
  · by_cases h1 : t ≤ 549755813888
    · by_cases h2 : -1 ≤ f
      · by_cases h3 : f ≤ 6
        all_goals
          go_enter Try.func21, Try.ntmps21
          go_wp2_with fail
          go_ret
          exact ⟨ret_b (by have := RH.out; rw [Bool.eq_iff_iff, this]; simp; omega), (Below.refl _ w).alloc (Nat.le_refl _) _⟩
      · go_enter Try.func21, Try.ntmps21
        go_wp2_with fail
        go_ret
        exact ⟨ret_b (by have := RH.out; rw [Bool.eq_iff_iff, this]; simp; omega), (Below.refl _ w).alloc (Nat.le_refl _) _⟩
    · go_enter Try.func21, Try.ntmps21
      go_wp2_with fail
      go_ret
      exact ⟨ret_b (by have := RH.out; rw [Bool.eq_iff_iff, this]; simp; omega), (Below.refl _ w).alloc (Nat.le_refl _) _⟩
  · go_enter Try.func21, Try.ntmps21
    go_wp2_with fail
    go_ret
    exact ⟨ret_b (by have := RH.out; rw [Bool.eq_iff_iff, this]; simp; omega), (Below.refl _ w).alloc (Nat.le_refl _) _⟩
set_option maxHeartbeats 4000000 in
theorem smay_any (i t m : Int) (s : ByteArray) (w : World) : Calls Try.prog 22 #[snapV i t m s] w fun e w' => e = .returned (.bool (snapB i t m s)) ∧ Below w.heap.size w w' := by
  have R : ∃ b, snapB i t m s = b ∧ (b = true ↔ (0 ≤ i ∧ i ≤ 549755813888 ∧ 0 ≤ t ∧ t ≤ 549755813888 ∧ 0 ≤ m ∧ m ≤ 127 ∧ (s.size : Int) ≤ 262144)) := ⟨_, rfl, by unfold snapB idxB; simp only [Bool.and_eq_true, decide_eq_true_eq]; omega⟩
  obtain ⟨b, hb, R⟩ := R
  rw [hb]
  have RH := Lib.hid R
  clear R hb
  unfold snapV
  by_cases h0 : 0 ≤ i
  rotate_left
  · go_enter Try.func22, Try.ntmps22
    go_wp2_with fail
    go_ret
    exact ⟨ret_b (by have := RH.out; rw [Bool.eq_iff_iff, this]; simp; omega), (Below.refl _ w).alloc (Nat.le_refl _) _⟩
  by_cases h1 : i ≤ 549755813888
  rotate_left
  · go_enter Try.func22, Try.ntmps22
    go_wp2_with fail
    go_ret
    exact ⟨ret_b (by have := RH.out; rw [Bool.eq_iff_iff, this]; simp; omega), (Below.refl _ w).alloc (Nat.le_refl _) _⟩
  by_cases h2 : 0 ≤ t
  rotate_left
  · go_enter Try.func22, Try.ntmps22
    go_wp2_with fail
    go_ret
    exact ⟨ret_b (by have := RH.out; rw [Bool.eq_iff_iff, this]; simp; omega), (Below.refl _ w).alloc (Nat.le_refl _) _⟩
  by_cases h3 : t ≤ 549755813888
  rotate_left
  · go_enter Try.func22, Try.ntmps22
    go_wp2_with fail
    go_ret
    exact ⟨ret_b (by have := RH.out; rw [Bool.eq_iff_iff, this]; simp; omega), (Below.refl _ w).alloc (Nat.le_refl _) _⟩
  by_cases h4 : 0 ≤ m
  rotate_left
  · go_enter Try.func22, Try.ntmps22
    go_wp2_with fail
    go_ret
    exact ⟨ret_b (by have := RH.out; rw [Bool.eq_iff_iff, this]; simp; omega), (Below.refl _ w).alloc (Nat.le_refl _) _⟩
  by_cases h5 : m ≤ 127
  rotate_left
  · go_enter Try.func22, Try.ntmps22
    go_wp2_with fail
    go_ret
    exact ⟨ret_b (by have := RH.out; rw [Bool.eq_iff_iff, this]; simp; omega), (Below.refl _ w).alloc (Nat.le_refl _) _⟩
  · go_enter Try.func22, Try.ntmps22
    go_wp2_with fail
    go_ret
    exact ⟨ret_b (by have := RH.out; rw [Bool.eq_iff_iff, this]; simp; omega), (Below.refl _ w).alloc (Nat.le_refl _) _⟩
set_option maxHeartbeats 1000000 in
theorem rvote_no {t f : Int} (h : voteB t f = false) (w : World) : Calls Try.prog 11 #[voteV t f] w fun e w' => e = .returned (.tuple #[.string ⟨#[]⟩, .int .i64 1]) ∧ Below w.heap.size w w' := by
  have M := Lib.hid (fun W => voted_any t f W)
  rw [h] at M
  clear h
  unfold voteV at *
  go_enter Try.func11, Try.ntmps11
  go_wp2_with fail
  refine (M.out _).mono ?_
  rintro e w1 ⟨rfl, b1⟩
  have B1 := Lib.hid (((Below.refl _ w).alloc (Nat.le_refl _) (.cells #[.int .i64 t, .int .i64 f] 32)).trans (b1.mono (by simp)))
  clear b1
  go_wp2_with fail
  go_ret2
  exact ⟨rfl, B1.out⟩
set_option maxHeartbeats 2000000 in
theorem rvote_ok {t f : Int} (h : voteB t f = true) (w : World) : Calls Try.prog 11 #[voteV t f] w fun e w' => e = .returned (.tuple #[.string (voteS t f), .int .i64 0]) ∧ Below w.heap.size w w' := by
  have M := Lib.hid (fun W => voted_any t f W)
  rw [h] at M
  obtain ⟨t0, t1, f0, f1⟩ := voteB_bd h
  have NA := Lib.hid (fun W => Bt.rnum_any t t0 (by omega) W)
  have NB := Lib.hid (fun W => Bt.rint_any f (by omega) (by omega) W)
  have hA := Bt.numS_size t
  have hB : (Bt.intS f).size ≤ 9 := Bt.numS_size _
  unfold voteS
  generalize Bt.numS t = A at *
  generalize Bt.intS f = K at *
  clear h
  unfold voteV at *
  generalize hy : w.heap.size = Y at *
  go_enter Try.func11, Try.ntmps11
  go_wp2_with fail
  refine (M.out _).mono ?_
  rintro e w1 ⟨rfl, b1⟩
  have K0 : Blk (w.alloc (.cells #[.int .i64 t, .int .i64 f] 32)) Y 32 #[.int .i64 t, .int .i64 f] := by rw [← hy]; exact Blk.new w 32 _
  have K1 := Lib.hid (K0.below b1 (by simp [hy]))
  have B1 := Lib.hid (((Below.refl Y w).alloc (Nat.le_of_eq hy.symm) (.cells #[.int .i64 t, .int .i64 f] 32)).trans (b1.mono (by simp [hy])))
  clear b1 K0
  go_wp2_with fail
  have d0 : w1.cell? ⟨Y, 0, none⟩ = some (.int .i64 t) := K1.out.cell 0
  have d1 : w1.cell? ⟨Y, 1, none⟩ = some (.int .i64 f) := K1.out.cell 1
  have x0 := fun d os => cell_regrown d0 d os
  have x1 := fun d os => cell_regrown d1 d os
  have C1 := Lib.hid (fun d os => Calls.regrown_of (d := d) (os := os) (NA.out (Go.Sort.grow (redrawn w1 d) os)))
  have C2 := Lib.hid (fun d os => Calls.regrown_of (d := d) (os := os) (NB.out (Go.Sort.grow (redrawn w1 d) os)))
  have q1 : ¬ (9223372036854775807 < A.size + K.size) := by omega
  have u1 : IntKind.u64.wrap t = t := IntWalk.u64_in _ (by omega)
  refine wp_region_quiet_below Ct.mixed (by kernel_rfl) ?_
  repeat (quiet_step (first | (with_reducible exact C1.out _ _) | (with_reducible exact C2.out _ _)))
  refine wpQuiet_nil ?_
  intro _ hw'
  obtain ⟨⟨dq, osq⟩, hw''⟩ := hw'
  subst hw''
  have b3 := below_regrown w1 dq osq
  have B3h := Lib.hid (B1.out.trans (b3.mono (by have := B1.out.size; omega)))
  clear x0 x1 d0 d1 C1 C2 b3 u1 q1 NA NB
  generalize Go.Sort.grow (redrawn w1 dq) osq = w3 at *
  go_wp2_with fail
  go_ret2
  exact ⟨rfl, B3h.out⟩
set_option maxHeartbeats 1000000 in
theorem rsnap_no {i t m : Int} {s : ByteArray} (h : snapB i t m s = false) (w : World) : Calls Try.prog 13 #[snapV i t m s] w fun e w' => e = .returned (.tuple #[.string ⟨#[]⟩, .int .i64 1]) ∧ Below w.heap.size w w' := by
  have M := Lib.hid (fun W => smay_any i t m s W)
  rw [h] at M
  clear h
  unfold snapV at *
  go_enter Try.func13, Try.ntmps13
  go_wp2_with fail
  refine (M.out _).mono ?_
  rintro e w1 ⟨rfl, b1⟩
  have B1 := Lib.hid (((Below.refl _ w).alloc (Nat.le_refl _) (.cells #[.int .i64 i, .int .i64 t, .int .i64 m, .string s] 35)).trans (b1.mono (by simp)))
  clear b1
  go_wp2_with fail
  go_ret2
  exact ⟨rfl, B1.out⟩
set_option maxHeartbeats 4000000 in
theorem rsnap_ok {i t m : Int} {s : ByteArray} (h : snapB i t m s = true) (w : World) : Calls Try.prog 13 #[snapV i t m s] w fun e w' => e = .returned (.tuple #[.string (snapS i t m s), .int .i64 0]) ∧ Below w.heap.size w w' := by
  have M := Lib.hid (fun W => smay_any i t m s W)
  rw [h] at M
  obtain ⟨i0, i1, t0, t1, m0, m1, s1⟩ := snapB_bd h
  have NA := Lib.hid (fun W => Bt.rnum_any i i0 (by omega) W)
  have NB := Lib.hid (fun W => Bt.rnum_any t t0 (by omega) W)
  have NC := Lib.hid (fun W => Bt.rnum_any m m0 (by omega) W)
  have NK := Lib.hid (fun W => Bt.rtext_any s (by omega) W)
  have hA := Bt.numS_size i
  have hB := Bt.numS_size t
  have hC := Bt.numS_size m
  have hK : (Bt.textS s).size ≤ 262153 := by
    have := Bt.numS_size (s.size : Int)
    unfold Bt.textS
    rw [ByteArray.size_append]
    omega
  unfold snapS
  generalize Bt.numS i = A at *
  generalize Bt.numS t = A2 at *
  generalize Bt.numS m = A3 at *
  generalize Bt.textS s = K at *
  clear h
  unfold snapV at *
  generalize hy : w.heap.size = Y at *
  go_enter Try.func13, Try.ntmps13
  go_wp2_with fail
  refine (M.out _).mono ?_
  rintro e w1 ⟨rfl, b1⟩
  have K0 : Blk (w.alloc (.cells #[.int .i64 i, .int .i64 t, .int .i64 m, .string s] 35)) Y 35 #[.int .i64 i, .int .i64 t, .int .i64 m, .string s] := by rw [← hy]; exact Blk.new w 35 _
  have K1 := Lib.hid (K0.below b1 (by simp [hy]))
  have B1 := Lib.hid (((Below.refl Y w).alloc (Nat.le_of_eq hy.symm) (.cells #[.int .i64 i, .int .i64 t, .int .i64 m, .string s] 35)).trans (b1.mono (by simp [hy])))
  clear b1 K0
  go_wp2_with fail
  have d0 : w1.cell? ⟨Y, 0, none⟩ = some (.int .i64 i) := K1.out.cell 0
  have d1 : w1.cell? ⟨Y, 1, none⟩ = some (.int .i64 t) := K1.out.cell 1
  have d2 : w1.cell? ⟨Y, 2, none⟩ = some (.int .i64 m) := K1.out.cell 2
  have d3 : w1.cell? ⟨Y, 3, none⟩ = some (.string s) := K1.out.cell 3
  have x0 := fun d os => cell_regrown d0 d os
  have x1 := fun d os => cell_regrown d1 d os
  have x2 := fun d os => cell_regrown d2 d os
  have x3 := fun d os => cell_regrown d3 d os
  have C1 := Lib.hid (fun d os => Calls.regrown_of (d := d) (os := os) (NA.out (Go.Sort.grow (redrawn w1 d) os)))
  have C2 := Lib.hid (fun d os => Calls.regrown_of (d := d) (os := os) (NB.out (Go.Sort.grow (redrawn w1 d) os)))
  have C3 := Lib.hid (fun d os => Calls.regrown_of (d := d) (os := os) (NC.out (Go.Sort.grow (redrawn w1 d) os)))
  have C4 := Lib.hid (fun d os => Calls.regrown_of (d := d) (os := os) (NK.out (Go.Sort.grow (redrawn w1 d) os)))
  have q1 : ¬ (9223372036854775807 < A.size + A2.size) := by omega
  have q2 : ¬ (9223372036854775807 < A.size + A2.size + A3.size) := by omega
  have q3 : ¬ (9223372036854775807 < A.size + A2.size + A3.size + K.size) := by omega
  have u1 : IntKind.u64.wrap i = i := IntWalk.u64_in _ (by omega)
  have u2 : IntKind.u64.wrap t = t := IntWalk.u64_in _ (by omega)
  have u3 : IntKind.u64.wrap m = m := IntWalk.u64_in _ (by omega)
  refine wp_region_quiet_below Ct.mixed (by kernel_rfl) ?_
  repeat (quiet_step (first | (with_reducible exact C1.out _ _) | (with_reducible exact C2.out _ _) | (with_reducible exact C3.out _ _) | (with_reducible exact C4.out _ _)))
  refine wpQuiet_nil ?_
  intro _ hw'
  obtain ⟨⟨dq, osq⟩, hw''⟩ := hw'
  subst hw''
  have b3 := below_regrown w1 dq osq
  have B3h := Lib.hid (B1.out.trans (b3.mono (by have := B1.out.size; omega)))
  clear x0 x1 x2 x3 d0 d1 d2 d3 C1 C2 C3 C4 b3 u1 u2 u3 q1 q2 q3 NA NB NC NK
  generalize Go.Sort.grow (redrawn w1 dq) osq = w3 at *
  go_wp2_with fail
  go_ret2
  exact ⟨rfl, B3h.out⟩
end Go.Proofs.Ythdkflmkcoabaaa
/-
  THE LAW ShelfTexts AS A WALK.
-/
namespace Go.Proofs.Ythdkflmkcoabaaa
open Go.RowKit
def vT (t f : Int) : ByteArray × Int := if voteB t f then (voteS t f, 0) else (⟨#[]⟩, 1)
def sT (i t m : Int) (s : ByteArray) : ByteArray × Int := if snapB i t m s then (snapS i t m s, 0) else (⟨#[]⟩, 1)
theorem vote_all (t f : Int) (w : World) : Calls Try.prog 10 #[voteV t f] w fun e w' => e = .returned (.tuple #[.string (vT t f).1, .int .i64 (vT t f).2]) ∧ Below w.heap.size w w' := by
  unfold vT
  cases h : voteB t f
  · exact vote_no h w
  · exact vote_ok h w
theorem rvote_all (t f : Int) (w : World) : Calls Try.prog 11 #[voteV t f] w fun e w' => e = .returned (.tuple #[.string (vT t f).1, .int .i64 (vT t f).2]) ∧ Below w.heap.size w w' := by
  unfold vT
  cases h : voteB t f
  · exact rvote_no h w
  · exact rvote_ok h w
theorem snap_all (i t m : Int) (s : ByteArray) (w : World) : Calls Try.prog 12 #[snapV i t m s] w fun e w' => e = .returned (.tuple #[.string (sT i t m s).1, .int .i64 (sT i t m s).2]) ∧ Below w.heap.size w w' := by
  unfold sT
  cases h : snapB i t m s
  · exact snap_no h w
  · exact snap_ok h w
theorem rsnap_all (i t m : Int) (s : ByteArray) (w : World) : Calls Try.prog 13 #[snapV i t m s] w fun e w' => e = .returned (.tuple #[.string (sT i t m s).1, .int .i64 (sT i t m s).2]) ∧ Below w.heap.size w w' := by
  unfold sT
  cases h : snapB i t m s
  · exact rsnap_no h w
  · exact rsnap_ok h w
/-- a vote and a snapshot that came in, in their boxes -/
structure Pv (w W : World) (v x : Array Value) : Prop where
  v : Blk W w.heap.size 23 v
  x : Blk W (w.heap.size + 1) 25 x
  b : Below w.heap.size w W
theorem Pv.step {w W W' : World} {v x : Array Value} (h : Pv w W v x) (hb : Below W.heap.size W W') : Pv w W' v x :=
  ⟨h.v.below hb h.v.lt, h.x.below hb h.x.lt, h.b.trans (hb.mono h.b.size)⟩
theorem Pv.al {w W : World} {v x : Array Value} (h : Pv w W v x) (o : Obj) : Pv w (W.alloc o) v x := h.step ((Below.refl _ W).alloc (Nat.le_refl _) o)
theorem Pv.start (w : World) (v x : Array Value) : Pv w ((w.alloc (.cells v 23)).alloc (.cells x 25)) v x := by
  have V0 := Blk.new w 23 v
  have bA := (Below.refl _ w).alloc (Nat.le_refl _) (.cells v 23)
  have bB := (Below.refl _ (w.alloc (.cells v 23))).alloc (Nat.le_refl _) (.cells x 25)
  have S1 := Blk.new (w.alloc (.cells v 23)) 25 x
  have hs1 : (w.alloc (.cells v 23)).heap.size = w.heap.size + 1 := by simp
  rw [hs1] at S1
  exact ⟨V0.below bB V0.lt, S1, bA.trans (bB.mono bA.size)⟩
set_option maxHeartbeats 8000000 in
theorem texts_core (a b i t m : Int) (s xs ys : ByteArray) (xn yn : Int) (w : World) (VA : Hid (∀ W, Calls Try.prog 10 #[voteV a b] W fun e w' => e = .returned (.tuple #[.string xs, .int .i64 xn]) ∧ Below W.heap.size W w')) (VR : Hid (∀ W, Calls Try.prog 11 #[voteV a b] W fun e w' => e = .returned (.tuple #[.string xs, .int .i64 xn]) ∧ Below W.heap.size W w'))
    (SA : Hid (∀ W, Calls Try.prog 12 #[snapV i t m s] W fun e w' => e = .returned (.tuple #[.string ys, .int .i64 yn]) ∧ Below W.heap.size W w')) (SR : Hid (∀ W, Calls Try.prog 13 #[snapV i t m s] W fun e w' => e = .returned (.tuple #[.string ys, .int .i64 yn]) ∧ Below W.heap.size W w'))
    (hz : s.size ≤ 20000 ∨ (20000 < s.size ∧ 262144 < s.size)) : Calls Try.prog 3 #[voteV a b, snapV i t m s] w fun e w' => e = .returned (.bool true) ∧ Below w.heap.size w w' := by
  have P0 := Lib.hid (Pv.start w #[.int .i64 a, .int .i64 b] #[.int .i64 i, .int .i64 t, .int .i64 m, .string s])
  unfold voteV snapV at *
  have g3 : ((w.alloc (.cells #[.int .i64 a, .int .i64 b] 23)).alloc (.cells #[.int .i64 i, .int .i64 t, .int .i64 m, .string s] 25)).cell? ⟨w.heap.size + 1, 3, none⟩ = some (.string s) := P0.out.x.cell 3
  rcases hz with h0 | ⟨h0, h1⟩
  · have h0' : ¬ (20000 : Int) < (s.size : Int) := by omega
    clear h0
    go_enter Try.func3, Try.ntmps3
    go_wp2_with fail
    refine (VA.out _).mono ?_
    rintro e w1 ⟨rfl, b1⟩
    have P1 := Lib.hid (P0.out.step b1)
    clear b1 g3 P0
    have c0 : w1.cell? ⟨w.heap.size, 0, none⟩ = some (.int .i64 a) := P1.out.v.cell 0
    have c1 : w1.cell? ⟨w.heap.size, 1, none⟩ = some (.int .i64 b) := P1.out.v.cell 1
    go_wp2_with fail
    refine (VR.out _).mono ?_
    rintro e w2 ⟨rfl, b2⟩
    have P2 := Lib.hid (P1.out.step b2)
    clear b2 c0 c1 P1
    have d0 : w2.cell? ⟨w.heap.size + 1, 0, none⟩ = some (.int .i64 i) := P2.out.x.cell 0
    have d1 : w2.cell? ⟨w.heap.size + 1, 1, none⟩ = some (.int .i64 t) := P2.out.x.cell 1
    have d2 : w2.cell? ⟨w.heap.size + 1, 2, none⟩ = some (.int .i64 m) := P2.out.x.cell 2
    have d3 : w2.cell? ⟨w.heap.size + 1, 3, none⟩ = some (.string s) := P2.out.x.cell 3
    go_wp2_with fail
    refine (SA.out _).mono ?_
    rintro e w3 ⟨rfl, b3⟩
    have P3 := Lib.hid (P2.out.step b3)
    clear b3 d0 d1 d2 d3 P2
    have d0 : w3.cell? ⟨w.heap.size + 1, 0, none⟩ = some (.int .i64 i) := P3.out.x.cell 0
    have d1 : w3.cell? ⟨w.heap.size + 1, 1, none⟩ = some (.int .i64 t) := P3.out.x.cell 1
    have d2 : w3.cell? ⟨w.heap.size + 1, 2, none⟩ = some (.int .i64 m) := P3.out.x.cell 2
    have d3 : w3.cell? ⟨w.heap.size + 1, 3, none⟩ = some (.string s) := P3.out.x.cell 3
    go_wp2_with fail
    refine (SR.out _).mono ?_
    rintro e w4 ⟨rfl, b4⟩
    have P4 := Lib.hid (P3.out.step b4)
    clear b4 d0 d1 d2 d3 P3
    go_wp2_with fail
    refine (awake_any _).mono ?_
    rintro e w5 ⟨rfl, b5⟩
    have P5 := Lib.hid (P4.out.step b5)
    clear b5 P4
    go_wp2_with fail
    go_ret
    exact ⟨by simp, P5.out.b⟩
  · have h0' : (20000 : Int) < (s.size : Int) := by omega
    have h1' : ¬ (s.size : Int) ≤ 262144 := by omega
    clear h0 h1
    go_enter Try.func3, Try.ntmps3
    go_wp2_with fail
    refine (VA.out _).mono ?_
    rintro e w1 ⟨rfl, b1⟩
    have P1 := Lib.hid (P0.out.step b1)
    clear b1 g3 P0
    have c0 : w1.cell? ⟨w.heap.size, 0, none⟩ = some (.int .i64 a) := P1.out.v.cell 0
    have c1 : w1.cell? ⟨w.heap.size, 1, none⟩ = some (.int .i64 b) := P1.out.v.cell 1
    go_wp2_with fail
    refine (VR.out _).mono ?_
    rintro e w2 ⟨rfl, b2⟩
    have P2 := Lib.hid (P1.out.step b2)
    clear b2 c0 c1 P1
    have d0 : w2.cell? ⟨w.heap.size + 1, 0, none⟩ = some (.int .i64 i) := P2.out.x.cell 0
    have d1 : w2.cell? ⟨w.heap.size + 1, 1, none⟩ = some (.int .i64 t) := P2.out.x.cell 1
    have d2 : w2.cell? ⟨w.heap.size + 1, 2, none⟩ = some (.int .i64 m) := P2.out.x.cell 2
    have d3 : w2.cell? ⟨w.heap.size + 1, 3, none⟩ = some (.string s) := P2.out.x.cell 3
    go_wp2_with fail
    refine (SA.out _).mono ?_
    rintro e w3 ⟨rfl, b3⟩
    have P3 := Lib.hid (P2.out.step b3)
    clear b3 d0 d1 d2 d3 P2
    have d0 : w3.cell? ⟨w.heap.size + 1, 0, none⟩ = some (.int .i64 i) := P3.out.x.cell 0
    have d1 : w3.cell? ⟨w.heap.size + 1, 1, none⟩ = some (.int .i64 t) := P3.out.x.cell 1
    have d2 : w3.cell? ⟨w.heap.size + 1, 2, none⟩ = some (.int .i64 m) := P3.out.x.cell 2
    have d3 : w3.cell? ⟨w.heap.size + 1, 3, none⟩ = some (.string s) := P3.out.x.cell 3
    go_wp2_with fail
    refine (SR.out _).mono ?_
    rintro e w4 ⟨rfl, b4⟩
    have P4 := Lib.hid (P3.out.step b4)
    clear b4 d0 d1 d2 d3 P3
    go_wp2_with fail
    refine (awake_any _).mono ?_
    rintro e w5 ⟨rfl, b5⟩
    have P5 := Lib.hid (P4.out.step b5)
    clear b5 P4
    go_wp2_with fail
    go_ret
    exact ⟨by simp, P5.out.b⟩
set_option maxHeartbeats 8000000 in
theorem texts_law (a b i t m : Int) (s : ByteArray) (w : World) : Calls Try.prog 3 #[voteV a b, snapV i t m s] w fun e w' => e = .returned (.bool true) ∧ Below w.heap.size w w' := by
  by_cases hz : 20000 < s.size ∧ s.size ≤ 262144
  · have P0 := Lib.hid (Pv.start w #[.int .i64 a, .int .i64 b] #[.int .i64 i, .int .i64 t, .int .i64 m, .string s])
    unfold voteV snapV at *
    have g3 : ((w.alloc (.cells #[.int .i64 a, .int .i64 b] 23)).alloc (.cells #[.int .i64 i, .int .i64 t, .int .i64 m, .string s] 25)).cell? ⟨w.heap.size + 1, 3, none⟩ = some (.string s) := P0.out.x.cell 3
    have h0' : (20000 : Int) < (s.size : Int) := by omega
    have h1' : (s.size : Int) ≤ 262144 := by omega
    clear hz
    go_enter Try.func3, Try.ntmps3
    go_wp2_with fail
    refine (awake_any _).mono ?_
    rintro e w8 ⟨rfl, b8⟩
    have N8 := Lib.hid (P0.out.step b8)
    clear b8
    go_wp2_with fail
    go_ret
    exact ⟨rfl, N8.out.b⟩
  · exact texts_core a b i t m s _ _ _ _ w (Lib.hid fun W => vote_all a b W) (Lib.hid fun W => rvote_all a b W) (Lib.hid fun W => snap_all i t m s W) (Lib.hid fun W => rsnap_all i t m s W) (by omega)
end Go.Proofs.Ythdkflmkcoabaaa

/-
  WHAT IS READ HAS ONE FORM: written again it is the bytes that were read. Plain.
-/
namespace Go.Proofs.Ythdkflmkcoabaaa.Bt
open Go.RowKit
theorem bytes_ext {a b : ByteArray} (h : a.data.toList = b.data.toList) : a = b := ByteArray.ext (Array.toList_inj.1 h)
theorem cat_data (a b : ByteArray) : (a ++ b).data.toList = a.data.toList ++ b.data.toList := by simp
theorem ext_data (s : ByteArray) (k : Nat) : (s.extract k s.size).data.toList = s.data.toList.drop k := by
  rw [Lib.extract_data, List.take_of_length_le]
  rw [List.length_drop, ← Lib.size_eq]
  exact Nat.le_refl _
def u8l (l : List Int) : List UInt8 := l.map fun n => UInt8.ofNat n.toNat
theorem u8s_snoc (l : List Int) (n : Int) : u8l (l ++ [n]) = u8l l ++ [UInt8.ofNat n.toNat] := by simp [u8l]
theorem be_join (l : List UInt8) : u8l (be l.length (joinN l)) = l := by
  have h : ∀ (k : Nat) (l : List UInt8), l.length = k → u8l (be k (joinN l)) = l := by
    intro k
    induction k with
    | zero => intro l hl; rw [List.eq_nil_of_length_eq_zero hl]; rfl
    | succ k ih =>
      intro l hl
      have hne : l ≠ [] := fun e => by rw [e] at hl; simp at hl
      obtain ⟨m, b, rfl⟩ : ∃ m b, l = m ++ [b] := ⟨l.dropLast, l.getLast hne, (List.dropLast_concat_getLast hne).symm⟩
      have hb := b.toNat_lt
      have hm : m.length = k := by simpa using hl
      rw [joinN_snoc]
      have e1 : (((joinN m * 256 + b.toNat : Nat) : Int) / 256) = ((joinN m : Nat) : Int) := by omega
      have e2 : (((joinN m * 256 + b.toNat : Nat) : Int) % 256).toNat = b.toNat := by omega
      simp only [be]
      rw [u8s_snoc, e1, e2, ih m hm]
      simp
  exact h _ l rfl
theorem leastN_lt (k : Nat) (h : 2 ≤ k) : leastN k = 256 ^ (k - 1) := by unfold leastN; rw [if_neg (by omega)]
theorem wid_of {n : Nat} {k : Nat} (h1 : 1 ≤ k) (h2 : k ≤ 8) (hlo : leastN k ≤ n) (hhi : n < 256 ^ k) : wid (n : Int) = k := by
  have hk : k = 1 ∨ k = 2 ∨ k = 3 ∨ k = 4 ∨ k = 5 ∨ k = 6 ∨ k = 7 ∨ k = 8 := by omega
  rcases hk with rfl | rfl | rfl | rfl | rfl | rfl | rfl | rfl
  all_goals
    simp [leastN] at hlo hhi
    unfold wid
    repeat' split
    all_goals omega
/-- a number that is read, written again, is the bytes that were read -/
theorem num_one (l : List UInt8) (h : (rdNum l).2.2 = 0) : (numS ((rdNum l).1 : Int)).data.toList = l.take (rdNum l).2.1 := by
  unfold numS
  rw [strOfNums_data]
  match l with
  | [] => simp [rdNum] at h
  | b :: t =>
    have hb := b.toNat_lt
    simp only [rdNum] at h ⊢
    split at h
    · rename_i hb1
      rw [if_pos hb1]
      unfold numI
      rw [if_pos (by simp only; omega)]
      simp
    · rename_i hb1
      rw [if_neg hb1]
      split at h
      · simp at h
      · rename_i hlen
        rw [if_neg hlen]
        split at h
        · simp at h
        · rename_i hlo
          rw [if_neg hlo]
          simp only
          have htl : (t.take (b.toNat - 247)).length = b.toNat - 247 := by rw [List.length_take]; omega
          have hlt := joinN_lt (t.take (b.toNat - 247))
          rw [htl] at hlt
          have hw := wid_of (n := joinN (t.take (b.toNat - 247))) (k := b.toNat - 247) (by omega) (by omega) (by omega) hlt
          have hbe := be_join (t.take (b.toNat - 247))
          rw [htl] at hbe
          have hge : 248 ≤ leastN (b.toNat - 247) := by
            unfold leastN
            split
            · omega
            · exact Nat.le_trans (by decide : 248 ≤ 256 ^ 1) (Nat.pow_le_pow_right (by decide) (by omega))
          have e : (((247 + (b.toNat - 247) : Nat) : Int)).toNat = b.toNat := by omega
          have hn : ¬ ((joinN (t.take (b.toNat - 247)) : Nat) : Int) ≤ 247 := by omega
          unfold u8l at hbe
          unfold numI
          rw [if_neg hn, hw, List.map_cons, List.take_succ_cons, e, hbe]
          simp
theorem zig_unz (n : Nat) : Lib.zigzag (unz n) = n := by
  unfold unz Lib.zigzag
  split
  · rename_i h; rw [if_pos (by omega)]; omega
  · rename_i h; rw [if_neg (by omega)]; omega
theorem take_cat (s x : ByteArray) (k : Nat) (h : x.data.toList = s.data.toList.take k) : x ++ s.extract k s.size = s := by
  apply bytes_ext
  rw [cat_data, ext_data, h, List.take_append_drop]
theorem num_back (s : ByteArray) (h : (rdNum s.data.toList).2.2 = 0) : numS ((rdNum s.data.toList).1 : Int) ++ s.extract (rdNum s.data.toList).2.1 s.size = s := take_cat s _ _ (num_one _ h)
theorem int_back (s : ByteArray) (h : (rdInt s.data.toList).2.2 = 0) : intS (rdInt s.data.toList).1 ++ s.extract (rdInt s.data.toList).2.1 s.size = s := by
  unfold intS rdInt
  simp only [zig_unz]
  exact num_back s h
theorem text_back (s : ByteArray) (most : Int) (h : (rdText s most).2.2 = 0) : textS (rdText s most).1 ++ s.extract (rdText s most).2.1 s.size = s := by
  rcases hR : rdNum s.data.toList with ⟨N, K, E⟩
  have hle := rdNum_le s
  have hone := num_one s.data.toList
  rw [hR] at hle hone
  rw [rdText_eq s most hR] at h ⊢
  split at h
  · rename_i hE; exact absurd h hE
  · rename_i hE
    rw [if_neg hE]
    split at h
    · simp at h
    · rename_i h2
      rw [if_neg h2]
      split at h
      · simp at h
      · rename_i h3
        rw [if_neg h3]
        simp only at hle hone ⊢
        apply take_cat
        have hsz : (s.extract K (K + N)).size = N := by simp; omega
        unfold textS
        rw [cat_data, hsz, hone (by simpa using hE), Lib.extract_data, List.take_add]
        congr 2
        omega
end Go.Proofs.Ythdkflmkcoabaaa.Bt

/-
  WHAT IS WRITTEN IS READ AS IT WAS: plain, of each kind.
-/
namespace Go.Proofs.Ythdkflmkcoabaaa.Bt
open Go.RowKit
theorem join_be (k : Nat) : ∀ n : Nat, joinN (u8l (be k (n : Int))) = n % 256 ^ k := by
  induction k with
  | zero => intro n; simp [be, u8l, joinN, Nat.mod_one]
  | succ k ih =>
    intro n
    have e : ((n : Int) / 256) = ((n / 256 : Nat) : Int) := by omega
    rw [be, u8s_snoc, joinN_snoc, e, ih, Nat.pow_succ, Nat.mul_comm (256 ^ k) 256, Nat.mod_mul]
    have e2 : (UInt8.ofNat ((n : Int) % 256).toNat).toNat = n % 256 := by
      rw [UInt8.toNat_ofNat']; omega
    rw [e2]; omega
theorem u8l_len (l : List Int) : (u8l l).length = l.length := by simp [u8l]
theorem wid_hi {n : Nat} (h : n < 18446744073709551616) : n < 256 ^ wid (n : Int) := by
  unfold wid
  repeat' split
  all_goals simp only [Nat.reducePow]; omega
theorem wid_lo {n : Nat} (h : 247 < n) : leastN (wid (n : Int)) ≤ n := by
  unfold wid leastN
  repeat' split
  all_goals first | omega | (simp only [Nat.reduceSub, Nat.reducePow]; omega)
theorem rd_num (n : Nat) (h : n < 18446744073709551616) (more : List UInt8) : rdNum ((numS (n : Int)).data.toList ++ more) = (n, (numS (n : Int)).size, 0) := by
  rw [Lib.size_eq]
  unfold numS
  rw [strOfNums_data]
  by_cases h1 : (n : Int) ≤ 247
  · unfold numI
    rw [if_pos h1]
    have e : (UInt8.ofNat ((n : Int).toNat)).toNat = n := by rw [UInt8.toNat_ofNat']; omega
    simp only [List.map_cons, List.map_nil, List.cons_append, List.nil_append, rdNum, e]
    rw [if_pos (by omega)]
    simp
  · unfold numI
    rw [if_neg h1]
    have hw := wid_le (n : Int)
    have e : (UInt8.ofNat (((247 + wid (n : Int) : Nat) : Int).toNat)).toNat = 247 + wid (n : Int) := by rw [UInt8.toNat_ofNat']; omega
    simp only [List.map_cons, List.cons_append, rdNum, e]
    have hl : (List.map (fun m : Int => UInt8.ofNat m.toNat) (be (wid (n : Int)) (n : Int))).length = wid (n : Int) := by rw [List.length_map, be_len]
    have ht : (List.map (fun m : Int => UInt8.ofNat m.toNat) (be (wid (n : Int)) (n : Int)) ++ more).take (wid (n : Int)) = u8l (be (wid (n : Int)) (n : Int)) := by
      rw [List.take_append_of_le_length (by omega), List.take_of_length_le (by omega)]; rfl
    rw [if_neg (by omega), if_neg (by rw [List.length_append, hl]; omega), show 247 + wid (n : Int) - 247 = wid (n : Int) by omega, ht, join_be, Nat.mod_eq_of_lt (wid_hi h), if_neg (by have := wid_lo (n := n) (by omega); omega)]
    simp only [List.length_cons, hl]
theorem rd_int (n : Int) (h0 : -9223372036854775808 ≤ n) (h1 : n ≤ 9223372036854775807) (more : List UInt8) : rdInt ((intS n).data.toList ++ more) = (n, (intS n).size, 0) := by
  unfold rdInt intS
  rw [rd_num _ (by have := zig_lt h0 h1; omega)]
  have e : unz (Lib.zigzag n) = n := by
    unfold unz Lib.zigzag
    split <;> split <;> omega
  rw [e]
theorem rd_text (s more : ByteArray) (hs : s.size < 9223372036854775808) : rdText (textS s ++ more) (s.size : Int) = (s, (textS s).size, 0) := by
  have hd : (textS s ++ more).data.toList = (numS (s.size : Int)).data.toList ++ (s.data.toList ++ more.data.toList) := by
    unfold textS; rw [cat_data, cat_data, List.append_assoc]
  have hR : rdNum (textS s ++ more).data.toList = (s.size, (numS (s.size : Int)).size, 0) := by rw [hd]; exact rd_num _ (by omega) _
  have hz : (textS s ++ more).size = (numS (s.size : Int)).size + s.size + more.size := by unfold textS; rw [ByteArray.size_append, ByteArray.size_append]
  rw [rdText_eq _ _ hR, if_neg (by simp), if_neg (by omega), if_neg (by omega)]
  have ht : (textS s).size = (numS (s.size : Int)).size + s.size := by unfold textS; rw [ByteArray.size_append]
  rw [ht]
  refine congrArg (fun x => (x, _)) ?_
  apply bytes_ext
  rw [Lib.extract_data, hd, Lib.size_eq (numS (s.size : Int)), List.drop_left, Nat.add_sub_cancel_left, Lib.size_eq s, List.take_left]
end Go.Proofs.Ythdkflmkcoabaaa.Bt
/-
  VOTES AND SNAPSHOTS AS TEXTS, PLAIN: what is written is read as it was; what is read is just what is written; the document's reading is this one.
-/
namespace Go.Proofs.Ythdkflmkcoabaaa
open Go.RowKit
theorem tk_zero {α : Type} {z : α} {s : ByteArray} {e : Int} {r : α × Nat × Int} (h : (Bt.tk z s e r).2.2 = 0) : e = 0 ∧ r.2.2 = 0 ∧ Bt.tk z s e r = (r.1, s.extract r.2.1 s.size, 0) := by
  unfold Bt.tk at *
  by_cases he : e = 0
  · by_cases hr : r.2.2 = 0
    · rw [if_neg (by simpa using he), if_neg (by simpa using hr)]
      exact ⟨he, hr, rfl⟩
    · rw [if_neg (by simpa using he), if_pos hr] at h
      exact absurd h hr
  · rw [if_pos he] at h
    exact absurd h he
theorem ext_back (a b : ByteArray) : (a ++ b).extract a.size (a ++ b).size = b := by
  apply Bt.bytes_ext
  rw [Lib.extract_data, Bt.cat_data, Lib.size_eq a, List.drop_left, List.take_of_length_le]
  rw [← Lib.size_eq, ← Lib.size_eq, ByteArray.size_append]
  omega
theorem app_assoc (a b c : ByteArray) : a ++ b ++ c = a ++ (b ++ c) := by
  apply Bt.bytes_ext
  simp only [Bt.cat_data, List.append_assoc]
theorem empty_of {s : ByteArray} (h : s.size = 0) : s = ⟨#[]⟩ := ByteArray.ext (Array.eq_empty_of_size_eq_zero h)
theorem app_nil (a : ByteArray) : a ++ ⟨#[]⟩ = a := by
  apply Bt.bytes_ext
  simp only [Bt.cat_data, List.append_nil]
/-- a number at the front -/
theorem tNum_at (n : Nat) (h : n < 18446744073709551616) (more : ByteArray) : Bt.tNum (Bt.numS (n : Int) ++ more) 0 = (n, more, 0) := by
  unfold Bt.tNum
  rw [Bt.cat_data, Bt.rd_num n h, Bt.tk_ok, ext_back]
theorem tInt_at (n : Int) (h0 : -9223372036854775808 ≤ n) (h1 : n ≤ 9223372036854775807) (more : ByteArray) : Bt.tInt (Bt.intS n ++ more) 0 = (n, more, 0) := by
  unfold Bt.tInt
  rw [Bt.cat_data, Bt.rd_int n h0 h1, Bt.tk_ok, ext_back]
theorem tNum_ati (n : Int) (h0 : 0 ≤ n) (h : n < 18446744073709551616) (more : ByteArray) : Bt.tNum (Bt.numS n ++ more) 0 = (n.toNat, more, 0) := by
  obtain ⟨k, rfl⟩ := Int.eq_ofNat_of_zero_le h0
  rw [tNum_at k (by omega)]
  simp
theorem w64_of {n : Int} (h0 : 0 ≤ n) (h : n < 9223372036854775808) : wrap64 ((n.toNat : Nat) : Int) = n := by
  rw [Int.toNat_of_nonneg h0]
  unfold wrap64
  omega
theorem endE_nil : Bt.endE ⟨#[]⟩ 0 = 0 := by unfold Bt.endE; rfl
theorem endE_zero {s : ByteArray} {e : Int} (h : Bt.endE s e = 0) : e = 0 ∧ s = ⟨#[]⟩ := by
  unfold Bt.endE at h
  split at h
  · rename_i h1; exact absurd h h1
  · rename_i h1
    split at h
    · rename_i h2; exact ⟨by simpa using h1, empty_of h2⟩
    · simp at h
/-- a vote -/
theorem rdV_was {t f : Int} (h : voteB t f = true) : rdV (voteS t f) = (t, f, 0) := by
  obtain ⟨t0, t1, f0, f1⟩ := voteB_bd h
  have e1 : tv1 (voteS t f) = (t.toNat, Bt.intS f, 0) := by unfold tv1 voteS; exact tNum_ati t t0 (by omega) _
  have e2 : tv2 (voteS t f) = (f, ⟨#[]⟩, 0) := by
    unfold tv2
    rw [e1]
    have := tInt_at f (by omega) (by omega) ⟨#[]⟩
    rw [app_nil] at this
    exact this
  have eE : rdE (voteS t f) = 0 := by unfold rdE; rw [e2]; exact endE_nil
  have eT : rdT (voteS t f) = t := by unfold rdT; rw [e1]; exact w64_of t0 (by omega)
  have eF : rdF (voteS t f) = f := by unfold rdF; rw [e2]
  unfold rdV
  rw [eE, eT, eF, if_pos ⟨rfl, h⟩]
theorem wrap64_idx {n : Nat} (hn : n < 18446744073709551616) {x : Int} (hx : x = wrap64 (n : Int)) (h : 0 ≤ x) (h1 : x ≤ 549755813888) : x = n := by
  subst hx
  by_cases hs : n < 9223372036854775808
  · have e : wrap64 (n : Int) = n := by unfold wrap64; omega
    exact e
  · exfalso
    have e : wrap64 (n : Int) = (n : Int) - 18446744073709551616 := by
      unfold wrap64
      omega
    omega
theorem rdNum_lt (s : ByteArray) : (Bt.rdNum s.data.toList).1 < 18446744073709551616 := (Bt.rdNum_facts s.data.toList).1
theorem rdV_ok {s : ByteArray} (h : (rdV s).2.2 = 0) : rdE s = 0 ∧ voteB (rdT s) (rdF s) = true ∧ rdV s = (rdT s, rdF s, 0) := by
  unfold rdV at *
  split at h
  · rename_i h1; exact ⟨h1.1, h1.2, by rw [if_pos h1]⟩
  · simp at h
theorem rdV_no {s : ByteArray} (h : (rdV s).2.2 ≠ 0) : rdV s = (0, 0, 3) := by
  unfold rdV at *
  split at h
  · simp at h
  · rename_i h1; rw [if_neg h1]
theorem rdV_back {s : ByteArray} (h : (rdV s).2.2 = 0) : voteB (rdV s).1 (rdV s).2.1 = true ∧ voteS (rdV s).1 (rdV s).2.1 = s := by
  obtain ⟨hE, hB, hV⟩ := rdV_ok h
  rw [hV]
  refine ⟨hB, ?_⟩
  simp only
  obtain ⟨z2, hn2⟩ := endE_zero (show Bt.endE (tv2 s).2.1 (tv2 s).2.2 = 0 from hE)
  have k2 := tk_zero (show (Bt.tk 0 (tv1 s).2.1 (tv1 s).2.2 (Bt.rdInt (tv1 s).2.1.data.toList)).2.2 = 0 from z2)
  have k1 := tk_zero (show (Bt.tk 0 s 0 (Bt.rdNum s.data.toList)).2.2 = 0 from k2.1)
  have e1 : tv1 s = ((Bt.rdNum s.data.toList).1, s.extract (Bt.rdNum s.data.toList).2.1 s.size, 0) := k1.2.2
  have e2 : tv2 s = ((Bt.rdInt (tv1 s).2.1.data.toList).1, (tv1 s).2.1.extract (Bt.rdInt (tv1 s).2.1.data.toList).2.1 (tv1 s).2.1.size, 0) := k2.2.2
  have b2 := Bt.int_back (tv1 s).2.1 k2.2.1
  have b1 := Bt.num_back s k1.2.1
  have hb := voteB_bd hB
  have eT : rdT s = ((Bt.rdNum s.data.toList).1 : Int) := wrap64_idx (rdNum_lt s) (show rdT s = wrap64 ((Bt.rdNum s.data.toList).1 : Int) by unfold rdT; rw [e1]) hb.1 hb.2.1
  have eF : Bt.intS (rdF s) = (tv1 s).2.1 := by
    have hx : (tv1 s).2.1.extract (Bt.rdInt (tv1 s).2.1.data.toList).2.1 (tv1 s).2.1.size = ⟨#[]⟩ := by rw [e2] at hn2; exact hn2
    rw [hx, app_nil] at b2
    unfold rdF
    rw [e2]
    exact b2
  unfold voteS
  rw [eF, eT, e1]
  exact b1
/-- a snapshot -/
def ts1 (s : ByteArray) : Nat × ByteArray × Int := Bt.tNum s 0
def ts2 (s : ByteArray) : Nat × ByteArray × Int := Bt.tNum (ts1 s).2.1 (ts1 s).2.2
def ts3 (s : ByteArray) : Nat × ByteArray × Int := Bt.tNum (ts2 s).2.1 (ts2 s).2.2
def ts4 (s : ByteArray) : ByteArray × ByteArray × Int := Bt.tText (ts3 s).2.1 (ts3 s).2.2 262144
theorem ts1_le (s : ByteArray) : (ts1 s).2.1.size ≤ s.size := tk_le _ _ _ _
theorem ts2_le (s : ByteArray) : (ts2 s).2.1.size ≤ s.size := Nat.le_trans (tk_le _ _ _ _) (ts1_le s)
theorem ts3_le (s : ByteArray) : (ts3 s).2.1.size ≤ s.size := Nat.le_trans (tk_le _ _ _ _) (ts2_le s)
theorem ts4_le (s : ByteArray) : (ts4 s).2.1.size ≤ s.size := Nat.le_trans (tk_le _ _ _ _) (ts3_le s)
def rsE (s : ByteArray) : Int := Bt.endE (ts4 s).2.1 (ts4 s).2.2
def rsI (s : ByteArray) : Int := wrap64 ((ts1 s).1 : Int)
def rsT (s : ByteArray) : Int := wrap64 ((ts2 s).1 : Int)
def rsM (s : ByteArray) : Int := wrap64 ((ts3 s).1 : Int)
def rsS (s : ByteArray) : ByteArray := (ts4 s).1
def rsV (s : ByteArray) : Int × Int × Int × ByteArray × Int := if rsE s = 0 ∧ snapB (rsI s) (rsT s) (rsM s) (rsS s) = true then (rsI s, rsT s, rsM s, rsS s, 0) else (0, 0, 0, ⟨#[]⟩, 3)
theorem rdText_more (s more : ByteArray) (most : Int) (hs : (s.size : Int) ≤ most) (hm : most < 9223372036854775808) : Bt.rdText (Bt.textS s ++ more) most = (s, (Bt.textS s).size, 0) := by
  have h := Bt.rd_text s more (by omega)
  have hd : (Bt.textS s ++ more).data.toList = (Bt.numS (s.size : Int)).data.toList ++ (s.data.toList ++ more.data.toList) := by
    unfold Bt.textS; rw [Bt.cat_data, Bt.cat_data, List.append_assoc]
  have hR : Bt.rdNum (Bt.textS s ++ more).data.toList = (s.size, (Bt.numS (s.size : Int)).size, 0) := by rw [hd]; exact Bt.rd_num _ (by omega) _
  rw [Bt.rdText_eq _ _ hR, if_neg (by simp), if_neg (by omega)] at h ⊢
  exact h
theorem tText_at (s more : ByteArray) (hs : s.size ≤ 262144) : Bt.tText (Bt.textS s ++ more) 0 262144 = (s, more, 0) := by
  unfold Bt.tText
  rw [rdText_more s more _ (by omega) (by decide), Bt.tk_ok, ext_back]
theorem snapB_m {i t m : Int} {s : ByteArray} (h : snapB i t m s = true) : m ≤ 549755813888 := by
  have := snapB_bd h
  omega
theorem rsV_was {i t m : Int} {s : ByteArray} (h : snapB i t m s = true) : rsV (snapS i t m s) = (i, t, m, s, 0) := by
  obtain ⟨i0, i1, t0, t1, m0, m1, s1⟩ := snapB_bd h
  have eS : snapS i t m s = Bt.numS i ++ (Bt.numS t ++ (Bt.numS m ++ Bt.textS s)) := by unfold snapS; rw [app_assoc, app_assoc]
  have e1 : ts1 (snapS i t m s) = (i.toNat, Bt.numS t ++ (Bt.numS m ++ Bt.textS s), 0) := by unfold ts1; rw [eS]; exact tNum_ati i i0 (by omega) _
  have e2 : ts2 (snapS i t m s) = (t.toNat, Bt.numS m ++ Bt.textS s, 0) := by unfold ts2; rw [e1]; exact tNum_ati t t0 (by omega) _
  have e3 : ts3 (snapS i t m s) = (m.toNat, Bt.textS s, 0) := by unfold ts3; rw [e2]; exact tNum_ati m m0 (by omega) _
  have e4 : ts4 (snapS i t m s) = (s, ⟨#[]⟩, 0) := by
    unfold ts4
    rw [e3]
    have := tText_at s ⟨#[]⟩ s1
    rw [app_nil] at this
    exact this
  have eE : rsE (snapS i t m s) = 0 := by unfold rsE; rw [e4]; exact endE_nil
  have eI : rsI (snapS i t m s) = i := by unfold rsI; rw [e1]; exact w64_of i0 (by omega)
  have eT : rsT (snapS i t m s) = t := by unfold rsT; rw [e2]; exact w64_of t0 (by omega)
  have eM : rsM (snapS i t m s) = m := by unfold rsM; rw [e3]; exact w64_of m0 (by omega)
  have eX : rsS (snapS i t m s) = s := by unfold rsS; rw [e4]
  unfold rsV
  rw [eE, eI, eT, eM, eX, if_pos ⟨rfl, h⟩]
theorem rsV_ok {s : ByteArray} (h : (rsV s).2.2.2.2 = 0) : rsE s = 0 ∧ snapB (rsI s) (rsT s) (rsM s) (rsS s) = true ∧ rsV s = (rsI s, rsT s, rsM s, rsS s, 0) := by
  unfold rsV at *
  split at h
  · rename_i h1; exact ⟨h1.1, h1.2, by rw [if_pos h1]⟩
  · simp at h
theorem rsV_no {s : ByteArray} (h : (rsV s).2.2.2.2 ≠ 0) : rsV s = (0, 0, 0, ⟨#[]⟩, 3) := by
  unfold rsV at *
  split at h
  · simp at h
  · rename_i h1; rw [if_neg h1]
theorem rsV_back {s : ByteArray} (h : (rsV s).2.2.2.2 = 0) : snapB (rsV s).1 (rsV s).2.1 (rsV s).2.2.1 (rsV s).2.2.2.1 = true ∧ snapS (rsV s).1 (rsV s).2.1 (rsV s).2.2.1 (rsV s).2.2.2.1 = s := by
  obtain ⟨hE, hB, hV⟩ := rsV_ok h
  rw [hV]
  refine ⟨hB, ?_⟩
  simp only
  obtain ⟨z4, hn4⟩ := endE_zero (show Bt.endE (ts4 s).2.1 (ts4 s).2.2 = 0 from hE)
  have k4 := tk_zero (show (Bt.tk ⟨#[]⟩ (ts3 s).2.1 (ts3 s).2.2 (Bt.rdText (ts3 s).2.1 262144)).2.2 = 0 from z4)
  have k3 := tk_zero (show (Bt.tk 0 (ts2 s).2.1 (ts2 s).2.2 (Bt.rdNum (ts2 s).2.1.data.toList)).2.2 = 0 from k4.1)
  have k2 := tk_zero (show (Bt.tk 0 (ts1 s).2.1 (ts1 s).2.2 (Bt.rdNum (ts1 s).2.1.data.toList)).2.2 = 0 from k3.1)
  have k1 := tk_zero (show (Bt.tk 0 s 0 (Bt.rdNum s.data.toList)).2.2 = 0 from k2.1)
  have e1 : ts1 s = ((Bt.rdNum s.data.toList).1, s.extract (Bt.rdNum s.data.toList).2.1 s.size, 0) := k1.2.2
  have e2 : ts2 s = ((Bt.rdNum (ts1 s).2.1.data.toList).1, (ts1 s).2.1.extract (Bt.rdNum (ts1 s).2.1.data.toList).2.1 (ts1 s).2.1.size, 0) := k2.2.2
  have e3 : ts3 s = ((Bt.rdNum (ts2 s).2.1.data.toList).1, (ts2 s).2.1.extract (Bt.rdNum (ts2 s).2.1.data.toList).2.1 (ts2 s).2.1.size, 0) := k3.2.2
  have e4 : ts4 s = ((Bt.rdText (ts3 s).2.1 262144).1, (ts3 s).2.1.extract (Bt.rdText (ts3 s).2.1 262144).2.1 (ts3 s).2.1.size, 0) := k4.2.2
  have b4 := Bt.text_back (ts3 s).2.1 262144 k4.2.1
  have b3 := Bt.num_back (ts2 s).2.1 k3.2.1
  have b2 := Bt.num_back (ts1 s).2.1 k2.2.1
  have b1 := Bt.num_back s k1.2.1
  have hb := snapB_bd hB
  have eI : rsI s = ((Bt.rdNum s.data.toList).1 : Int) := wrap64_idx (rdNum_lt s) (show rsI s = wrap64 ((Bt.rdNum s.data.toList).1 : Int) by unfold rsI; rw [e1]) hb.1 hb.2.1
  have eT : rsT s = ((Bt.rdNum (ts1 s).2.1.data.toList).1 : Int) := wrap64_idx (rdNum_lt _) (show rsT s = wrap64 ((Bt.rdNum (ts1 s).2.1.data.toList).1 : Int) by unfold rsT; rw [e2]) hb.2.2.1 hb.2.2.2.1
  have eM : rsM s = ((Bt.rdNum (ts2 s).2.1.data.toList).1 : Int) := wrap64_idx (rdNum_lt _) (show rsM s = wrap64 ((Bt.rdNum (ts2 s).2.1.data.toList).1 : Int) by unfold rsM; rw [e3]) hb.2.2.2.2.1 (snapB_m hB)
  have eX : Bt.textS (rsS s) = (ts3 s).2.1 := by
    have hx : (ts3 s).2.1.extract (Bt.rdText (ts3 s).2.1 262144).2.1 (ts3 s).2.1.size = ⟨#[]⟩ := by rw [e4] at hn4; exact hn4
    rw [hx, app_nil] at b4
    unfold rsS
    rw [e4]
    exact b4
  have c3 : (ts3 s).2.1 = (ts2 s).2.1.extract (Bt.rdNum (ts2 s).2.1.data.toList).2.1 (ts2 s).2.1.size := by rw [e3]
  have c2 : (ts2 s).2.1 = (ts1 s).2.1.extract (Bt.rdNum (ts1 s).2.1.data.toList).2.1 (ts1 s).2.1.size := by rw [e2]
  have c1 : (ts1 s).2.1 = s.extract (Bt.rdNum s.data.toList).2.1 s.size := by rw [e1]
  unfold snapS
  rw [app_assoc, app_assoc, eX, eM, c3, b3, eT, c2, b2, eI, c1, b1]
/-- the document's reading of a number -/
def numR (n : Nat) : Int := if 549755813888 < n then -1 else n
theorem idx_num {n : Nat} (h : n < 18446744073709551616) : (idxB (numR n) = idxB (wrap64 (n : Int))) ∧ (idxB (wrap64 (n : Int)) = true → numR n = wrap64 (n : Int)) := by
  unfold numR
  by_cases h1 : 549755813888 < n
  · rw [if_pos h1]
    have hf : idxB (wrap64 (n : Int)) = false := by
      cases hq : idxB (wrap64 (n : Int))
      · rfl
      · exfalso
        unfold idxB at hq
        simp only [Bool.and_eq_true, decide_eq_true_eq] at hq
        have := wrap64_idx h rfl hq.1 hq.2
        omega
    rw [hf]
    exact ⟨by decide, fun h => by cases h⟩
  · rw [if_neg h1]
    have e : wrap64 (n : Int) = n := by unfold wrap64; omega
    rw [e]
    exact ⟨rfl, fun _ => rfl⟩
theorem voteB_num {n : Nat} {f : Int} (h : n < 18446744073709551616) : voteB (numR n) f = voteB (wrap64 (n : Int)) f ∧ (voteB (wrap64 (n : Int)) f = true → numR n = wrap64 (n : Int)) := by
  unfold voteB
  obtain ⟨a, b⟩ := idx_num h
  rw [a]
  exact ⟨rfl, fun h => b (by simp only [Bool.and_eq_true] at h; exact h.1)⟩
theorem mask_num {n : Nat} (h : n < 18446744073709551616) (x : Bool) : ((decide (0 ≤ numR n) && (decide (numR n < 128) && x)) = (decide (0 ≤ wrap64 (n : Int)) && (decide (wrap64 (n : Int) < 128) && x))) ∧ ((decide (0 ≤ wrap64 (n : Int)) && (decide (wrap64 (n : Int) < 128) && x)) = true → numR n = wrap64 (n : Int)) := by
  unfold numR
  by_cases h1 : 549755813888 < n
  · rw [if_pos h1]
    have hf : (decide (0 ≤ wrap64 (n : Int)) && (decide (wrap64 (n : Int) < 128) && x)) = false := by
      cases hq : (decide (0 ≤ wrap64 (n : Int)) && (decide (wrap64 (n : Int) < 128) && x))
      · rfl
      · exfalso
        simp only [Bool.and_eq_true, decide_eq_true_eq] at hq
        have := wrap64_idx h rfl hq.1 (by omega)
        omega
    rw [hf]
    exact ⟨by simp, fun h => by cases h⟩
  · rw [if_neg h1]
    have e : wrap64 (n : Int) = n := by unfold wrap64; omega
    rw [e]
    exact ⟨rfl, fun _ => rfl⟩
theorem snapB_num {a b c : Nat} {s : ByteArray} (ha : a < 18446744073709551616) (hb : b < 18446744073709551616) (hc : c < 18446744073709551616) :
    snapB (numR a) (numR b) (numR c) s = snapB (wrap64 (a : Int)) (wrap64 (b : Int)) (wrap64 (c : Int)) s ∧ (snapB (wrap64 (a : Int)) (wrap64 (b : Int)) (wrap64 (c : Int)) s = true → numR a = wrap64 (a : Int) ∧ numR b = wrap64 (b : Int) ∧ numR c = wrap64 (c : Int)) := by
  unfold snapB
  rw [(idx_num ha).1, (idx_num hb).1, (mask_num hc (decide (s.size ≤ 262144))).1]
  refine ⟨rfl, fun h => ?_⟩
  rw [Bool.and_eq_true, Bool.and_eq_true] at h
  exact ⟨(idx_num ha).2 h.1, (idx_num hb).2 h.2.1, (mask_num hc (decide (s.size ≤ 262144))).2 h.2.2⟩
end Go.Proofs.Ythdkflmkcoabaaa
/-
  THE DOCUMENT'S OWN TAPE: a number at the front.
-/
namespace Go.Proofs.Ythdkflmkcoabaaa.Bt
open Go.RowKit Go.Sort
theorem mixed : Try.prog.follows .mixedOrders = true := by kernel_rfl
theorem numS_len (n : Int) : (numS n).size = if n ≤ 247 then 1 else wid n + 1 := by
  unfold numS numI
  rw [strOfNums_size]
  split
  · simp
  · rw [List.length_cons, be_len]
theorem wid_small {n k : Nat} (h1 : 1 ≤ k) (h2 : k ≤ 8) (h : n < leastN k) (h3 : 247 < n) : wid (n : Int) < k := by
  have hk : k = 1 ∨ k = 2 ∨ k = 3 ∨ k = 4 ∨ k = 5 ∨ k = 6 ∨ k = 7 ∨ k = 8 := by omega
  rcases hk with rfl | rfl | rfl | rfl | rfl | rfl | rfl | rfl
  all_goals
    simp [leastN] at h
    unfold wid
    repeat' split
    all_goals omega
theorem num_form (s : ByteArray) (k : Nat) (h0 : 0 < s.size) (hk : s[0].toNat = 247 + k) (h1 : 1 ≤ k) (hs : k + 1 ≤ s.size) :
    numS (joinN ((s.data.toList.drop 1).take k) : Nat) = s.extract 0 (k + 1) ↔ ¬ joinN ((s.data.toList.drop 1).take k) < leastN k := by
  have hb := s[0].toNat_lt
  have hd := head_drop s h0
  have hlen : (s.data.toList.drop 1).length = s.size - 1 := by rw [List.length_drop, ← Lib.size_eq]
  have hrd : rdNum s.data.toList = if joinN ((s.data.toList.drop 1).take k) < leastN k then (0, 0, 3) else (joinN ((s.data.toList.drop 1).take k), k + 1, 0) := by
    rw [hd]
    simp only [rdNum]
    rw [if_neg (by omega), show s[0].toNat - 247 = k by omega]
    simp only [List.drop_succ_cons, List.drop_zero]
    rw [if_neg (by omega)]
  constructor
  · intro he hlt
    have e1 := congrArg ByteArray.size he
    rw [numS_len] at e1
    have e3 : (s.extract 0 (k + 1)).size = k + 1 := by rw [ByteArray.size_extract]; omega
    rw [e3] at e1
    split at e1
    · omega
    · have := wid_small h1 (by omega) hlt (by omega)
      omega
  · intro hlt
    rw [if_neg hlt] at hrd
    have := num_one s.data.toList (by rw [hrd])
    rw [hrd] at this
    apply bytes_ext
    rw [Lib.extract_data, List.drop_zero, Nat.sub_zero]
    exact this
theorem join_next (s : ByteArray) (j : Nat) (h : j + 1 < s.size) : joinN ((s.data.toList.drop 1).take (j + 1)) = joinN ((s.data.toList.drop 1).take j) * 256 + s[j + 1].toNat := by
  have hl : j < (s.data.toList.drop 1).length := by rw [List.length_drop, ← Lib.size_eq]; omega
  rw [List.take_succ_eq_append_getElem hl, joinN_snoc, List.getElem_drop]
  simp only [Nat.add_comm 1 j]
  rfl
def aheadV (x : Nat × Nat × Int) : Value := .tuple #[.int .u64 (x.1 : Int), .int .i64 (x.2.1 : Int), .int .i64 x.2.2]
set_option maxRecDepth 10000 in
set_option maxHeartbeats 1000000 in
theorem ahead_any (s : ByteArray) (hs : s.size ≤ 281474976710656) (w : World) :
    Calls Try.prog 69 #[.string s] w fun e w' => e = .returned (aheadV (rdNum s.data.toList)) ∧ Below w.heap.size w w' := by
  by_cases h0 : s.size = 0
  · have e0 : s = ⟨#[]⟩ := by
      apply ByteArray.ext
      exact Array.eq_empty_of_size_eq_zero h0
    subst e0
    go_enter Try.func69, Try.ntmps69
    go_wp2_with fail
    go_ret3
    exact ⟨rfl, Below.refl _ _⟩
  have h1 : 0 < s.size := by omega
  have he := head_drop s h1
  have hne : s.toList.isEmpty = false := by
    rw [Lib.toList_data, he]; rfl
  have hb := s[0].toNat_lt
  have hbi : (s[0].toNat : Int) ≤ 255 := by omega
  have He := Lib.hid he
  clear he
  by_cases h2 : s[0].toNat ≤ 247
  · go_enter Try.func69, Try.ntmps69
    go_wp2_with fail
    go_ret3
    refine ⟨?_, Below.refl _ _⟩
    rw [He.out]; simp only [rdNum, if_pos h2]; rfl
  by_cases h3 : s.size < s[0].toNat - 247 + 1
  · go_enter Try.func69, Try.ntmps69
    go_wp2_with fail
    go_ret3
    refine ⟨?_, Below.refl _ _⟩
    rw [He.out]; simp only [rdNum, if_neg h2]; rw [if_pos (by simp; omega)]; rfl
  · obtain ⟨k, hk⟩ : ∃ k, s[0].toNat = 247 + k := ⟨s[0].toNat - 247, by omega⟩
    have hform := Lib.hid (num_form s k h1 hk (by omega) (by omega))
    go_enter Try.func69, Try.ntmps69
    go_wp2_with fail
    go_loop [6, 7] (fun n i => ∃ j : Nat, i = .int .i64 ((j : Int) + 1) ∧ j ≤ k ∧ n = .int .u64 (joinN ((s.data.toList.drop 1).take j) : Nat)) (fun _ i => k + 1 - (intOf i).toNat)
    case atStart => exact ⟨0, by simp, by omega, rfl⟩
    case round =>
      obtain ⟨j, rfl, hj, rfl⟩ := hrel
      by_cases hlt : j < k
      · have hix : j + 1 < s.size := by omega
        have hnx := Lib.hid (join_next s j hix)
        have hJ2 := joinN_u64 ((s.data.toList.drop 1).take (j + 1)) (by rw [List.length_take]; omega)
        rw [join_next s j hix] at hJ2
        have hbj := s[j + 1].toNat_lt
        generalize joinN ((s.data.toList.drop 1).take j) = J at *
        have hki : (j : Int) + 1 ≤ (s[0].toNat : Int) - 247 := by omega
        go_wp2_with fail
        exact ⟨⟨j + 1, by go_num, by omega, by rw [hnx.out]; exact congrArg (Value.int .u64) (by omega)⟩, by simp [intOf]; omega⟩
      · obtain rfl : j = k := by omega
        have hjl := joinN_u64 ((s.data.toList.drop 1).take j) (by rw [List.length_take]; omega)
        have hrd : Hid (rdNum s.data.toList = if joinN ((s.data.toList.drop 1).take j) < leastN j then (0, 0, 3) else (joinN ((s.data.toList.drop 1).take j), j + 1, 0)) := by
          unfold Hid
          rw [He.out]
          simp only [rdNum]
          rw [if_neg (by omega), show s[0].toNat - 247 = j by omega]
          simp only [List.drop_succ_cons, List.drop_zero]
          rw [if_neg (by simp; omega)]
        generalize joinN ((s.data.toList.drop 1).take j) = J at *
        have hki : ¬ (j : Int) + 1 ≤ (s[0].toNat : Int) - 247 := by omega
        go_wp2_with fail
        have cF : ∀ d os, Calls Try.prog 39 #[.int .u64 (J : Int)] (grow (redrawn w d) os) fun e w'' => e = .returned (.string (numS (J : Int))) ∧ ∃ p : Regrown, w'' = grow (redrawn w p.d) p.os := fun d os => Calls.regrown_of (rnum_any (J : Int) (by omega) (by omega) _)
        have CF := Lib.hid cF
        clear cF
        have l1 : IntKind.i64.wrap (247 + (j : Int) - 247 + 1) = 247 + (j : Int) - 247 + 1 := IntWalk.i64_in _ ⟨by omega, by omega⟩
        have l2 : (0 : Int) ≤ 247 + (j : Int) - 247 + 1 := by omega
        have l3 : (247 + (j : Int) - 247 + 1).toNat = j + 1 := by omega
        have l7 : 247 + (j : Int) - 247 + 1 ≤ (s.size : Int) := by omega
        have l8 : j + 1 ≤ s.size := by omega
        refine wp_region_quiet_below mixed (by kernel_rfl) ?_
        repeat (quiet_step (exact CF.out _ _))
        refine wpQuiet_nil ?_
        intro _ hw'
        obtain ⟨⟨dq, osq⟩, hw''⟩ := hw'
        subst hw''
        have b2 : Below w.heap.size w (grow (redrawn w dq) osq) := below_regrown w dq osq
        generalize grow (redrawn w dq) osq = w2 at *
        have hf := hform.out
        by_cases hlj : J < leastN j
        · have hq : (numS (J : Int)).toList ≠ (s.extract 0 (j + 1)).toList := fun e => by
            rw [ByteArray.toList_eq, ByteArray.toList_eq] at e
            exact hf.1 (bytes_ext e) hlj
          have hq2 : (!(numS (J : Int)).toList == (s.extract 0 (j + 1)).toList) = true := by simpa using hq
          rw [hq2]
          have hr := hrd.out
          rw [if_pos hlj] at hr
          have HR := Lib.hid hr
          clear hr hrd hq hq2 hf
          go_wp2_with fail
          go_ret3
          exact ⟨by rw [HR.out]; rfl, b2⟩
        · have hq2 : (!(numS (J : Int)).toList == (s.extract 0 (j + 1)).toList) = false := by rw [hf.2 hlj]; simp
          rw [hq2]
          have hr := hrd.out
          rw [if_neg hlj] at hr
          have HR := Lib.hid hr
          clear hr hrd hq2 hf
          go_wp2_with fail
          go_ret3
          refine ⟨?_, b2⟩
          rw [HR.out]
          exact ret_num rfl (by show (247 + (j : Int) - 247 + 1) = ((j + 1 : Nat) : Int); omega)
end Go.Proofs.Ythdkflmkcoabaaa.Bt
/-
  THE DOCUMENT'S OWN TAPE: its calls.
-/
namespace Go.Proofs.Ythdkflmkcoabaaa.Bt
open Go.RowKit Go.Sort
/-- a tape of the document, and what it answers -/
def tp (s : ByteArray) (e : Int) : Value := .agg #[.string s, .int .i64 e]
def rv {α : Type} (x : α × ByteArray × Int) (v : Value) : Value := .tuple #[.agg #[.string x.2.1, .int .i64 x.2.2], v]
theorem extract_all (s : ByteArray) : s.extract 0 s.size = s := bytes_ext (by rw [Lib.extract_data, List.drop_zero, Nat.sub_zero, List.take_of_length_le (by rw [← Lib.size_eq]; exact Nat.le_refl _)])
/-- a tape of the document in memory -/
def BoxAt (w : World) (b : Nat) (s : ByteArray) (e : Int) : Prop := w.heap[b]? = some (.cells #[.string s, .int .i64 e] 78 (0, 0))
section
variable {w w' : World} {b : Nat} {s s' : ByteArray} {e e' : Int}
theorem BoxAt.lt (h : BoxAt w b s e) : b < w.heap.size := (Array.getElem?_eq_some_iff.1 h).1
theorem BoxAt.c0 (h : BoxAt w b s e) : w.cell? ⟨b, 0, none⟩ = some (.string s) := by unfold BoxAt at h; simp [World.cell?, h]
theorem BoxAt.c1 (h : BoxAt w b s e) : w.cell? ⟨b, 1, none⟩ = some (.int .i64 e) := by unfold BoxAt at h; simp [World.cell?, h]
theorem BoxAt.f (h : BoxAt w b s e) (o : Nat) : w.frozen? ⟨b, o, none⟩ = false := by unfold BoxAt at h; simp [World.frozen?, h]
theorem BoxAt.next (h : BoxAt w b s e) (hb : Below w.heap.size w w') : BoxAt w' b s e := by
  have := h.lt
  unfold BoxAt at *
  rw [hb.block b this]; exact h
theorem BoxAt.set (h : BoxAt w b s e) : BoxAt ((w.setCell ⟨b, 0, none⟩ (.string s')).setCell ⟨b, 1, none⟩ (.int .i64 e')) b s' e' := by
  unfold BoxAt at *; simp [World.setCell, Array.getElem?_modify, h]
theorem BoxAt.alloc (h : BoxAt w b s e) (o : Obj) : BoxAt (w.alloc o) b s e := h.next ((Below.refl _ _).alloc (Nat.le_refl _) o)
theorem box_new (w : World) (s : ByteArray) (e : Int) : BoxAt (w.alloc (.cells #[.string s, .int .i64 e] 78)) w.heap.size s e := by
  unfold BoxAt; simp [World.alloc, -World.alloc_eq]
theorem box_new1 (w : World) (o : Obj) (s : ByteArray) (e : Int) : BoxAt ((w.alloc o).alloc (.cells #[.string s, .int .i64 e] 78)) (w.heap.size + 1) s e := by
  have h := box_new (w.alloc o) s e
  have hz : (w.alloc o).heap.size = w.heap.size + 1 := by simp [World.alloc, -World.alloc_eq]
  rwa [hz] at h
end
theorem end_box {w W : World} {b : Nat} {s0 : ByteArray} {e0 : Int} (hB : BoxAt W b s0 e0) (hb : Below w.heap.size w W) (hge : w.heap.size ≤ b) (s' : ByteArray) (e' : Int) :
    ∃ w2, w2 = (W.setCell ⟨b, 0, none⟩ (.string s')).setCell ⟨b, 1, none⟩ (.int .i64 e') ∧ w2.cell? ⟨b, 0, none⟩ = some (.string s') ∧ w2.cell? ⟨b, 1, none⟩ = some (.int .i64 e') ∧ Below w.heap.size w w2 :=
  ⟨_, rfl, hB.set.c0, hB.set.c1, (hb.setCell (p := ⟨b, 0, none⟩) hge (.string s')).setCell (p := ⟨b, 1, none⟩) hge (.int .i64 e')⟩
theorem rnumT_any (s : ByteArray) (e : Int) (hs : s.size ≤ 281474976710656) (w : World) :
    Calls Try.prog 46 #[.agg #[.string s, .int .i64 e]] w fun r w' => r = .returned (rv (tNum s e) (vNum (tNum s e))) ∧ Below w.heap.size w w' := by
  by_cases he : e = 0
  · subst he
    have HA := Lib.hid (ahead_any s hs)
    have hf := rdNum_facts s.data.toList
    rw [← Lib.size_eq] at hf
    unfold tNum
    rcases hR : rdNum s.data.toList with ⟨N, K, E⟩
    rw [hR] at HA hf
    simp only at hf
    have hk := hf.2.1
    unfold aheadV at HA
    go_enter Try.func46, Try.ntmps46
    go_wp2_with fail
    refine (HA.out _).mono ?_
    rintro r w1 ⟨rfl, b1⟩
    have B1 := ((box_new w s 0).alloc (.cells #[.string ⟨#[]⟩, .int .i64 0] 78)).next b1
    have B2 := (box_new1 w (.cells #[.string s, .int .i64 0] 78) ⟨#[]⟩ 0).next b1
    have x0 := B1.c0
    have x1 := B1.c1
    have y0 := B2.c0
    have y1 := B2.c1
    have yf0 := B2.f 0
    have yf1 := B2.f 1
    have bb : Below w.heap.size w w1 := (((Below.refl _ w).alloc (Nat.le_refl _) _).alloc (by simp) _).trans (b1.mono (by simp; omega))
    clear b1
    go_wp2_with fail
    obtain ⟨w2, hw2, z0, z1, b3⟩ := end_box B2 bb (by omega) (s.extract K s.size) E
    rw [← hw2]
    refine bodyPost_ret (by simp [results, Try.results46, go_sem, z0, z1]; try rfl) rfl ?_
    refine ⟨?_, b3⟩
    rcases hf.2.2 with rfl | ⟨rfl, rfl, rfl⟩ | ⟨rfl, rfl, rfl⟩
    · rw [tk_ok]; rfl
    · rw [tk_bad _ _ _ _ (by decide), extract_all]; rfl
    · rw [tk_bad _ _ _ _ (by decide), extract_all]; rfl
  · have heb : (e != 0) = true := by simp [he]
    have ht := Lib.hid (tk_stays 0 s (rdNum s.data.toList) he)
    go_enter Try.func46, Try.ntmps46
    go_wp2_with fail
    go_returns
    unfold tNum
    rw [ht.out]
    exact ⟨rfl, ((Below.refl _ w).alloc (Nat.le_refl _) _).alloc (by simp) _⟩
theorem tInt_of (s : ByteArray) (e : Int) : tInt s e = (unz (tNum s e).1, (tNum s e).2) := by
  unfold tInt tNum tk rdInt
  split
  · simp [unz]
  · dsimp only
    split
    · simp [unz]
    · rfl
theorem tNum_lt (s : ByteArray) (e : Int) : (tNum s e).1 < 18446744073709551616 := by
  have hf := (rdNum_facts s.data.toList).1
  unfold tNum tk
  split
  · exact (by decide : (0 : Nat) < 18446744073709551616)
  · split
    · exact (by decide : (0 : Nat) < 18446744073709551616)
    · exact hf
set_option maxHeartbeats 1000000 in
theorem rintT_any (s : ByteArray) (e : Int) (hs : s.size ≤ 281474976710656) (w : World) :
    Calls Try.prog 47 #[.agg #[.string s, .int .i64 e]] w fun r w' => r = .returned (rv (tInt s e) (vInt (tInt s e))) ∧ Below w.heap.size w w' := by
  have HA := Lib.hid (rnumT_any s e hs)
  have hl := tNum_lt s e
  rw [tInt_of]
  rcases hT : tNum s e with ⟨N, s', e'⟩
  rw [hT] at HA hl
  clear hT
  unfold rv vNum at HA
  simp only at HA hl
  by_cases hn : N % 2 = 0
  · have hn2 : (N : Int) % 2 = 0 := by omega
    have hu : Hid (unz N = (N : Int) / 2) := by unfold Hid unz; rw [if_pos hn]; omega
    go_enter Try.func47, Try.ntmps47
    go_wp2_with fail
    refine (HA.out _).mono ?_
    rintro r w1 ⟨rfl, b1⟩
    have B1 := ((box_new w s e).alloc (.cells #[.string ⟨#[]⟩, .int .i64 0] 78)).next b1
    have B2 := (box_new1 w (.cells #[.string s, .int .i64 e] 78) ⟨#[]⟩ 0).next b1
    have bb : Below w.heap.size w w1 := (((Below.refl _ w).alloc (Nat.le_refl _) _).alloc (by simp) _).trans (b1.mono (by simp; omega))
    clear b1
    have B4 := B2.alloc (.cells #[.string s', .int .i64 e'] 78)
    have y0 := B4.c0
    have y1 := B4.c1
    have yf0 := B4.f 0
    have yf1 := B4.f 1
    go_wp2_with fail
    obtain ⟨w2, hw2, z0, z1, b3⟩ := end_box B4 (bb.alloc bb.size _) (by omega) s' e'
    rw [← hw2]
    refine bodyPost_ret (by simp [results, Try.results47, go_sem, z0, z1]; try rfl) rfl ?_
    refine ⟨?_, b3⟩
    unfold rv vInt
    simp only [hu.out]
  · have hn2 : ¬ (N : Int) % 2 = 0 := by omega
    have hn3 : (N : Int) % 2 = 1 := by omega
    have hu : Hid (unz N = -((N : Int) / 2) - 1) := by unfold Hid unz; rw [if_neg hn]; omega
    go_enter Try.func47, Try.ntmps47
    go_wp2_with fail
    refine (HA.out _).mono ?_
    rintro r w1 ⟨rfl, b1⟩
    have B1 := ((box_new w s e).alloc (.cells #[.string ⟨#[]⟩, .int .i64 0] 78)).next b1
    have B2 := (box_new1 w (.cells #[.string s, .int .i64 e] 78) ⟨#[]⟩ 0).next b1
    have bb : Below w.heap.size w w1 := (((Below.refl _ w).alloc (Nat.le_refl _) _).alloc (by simp) _).trans (b1.mono (by simp; omega))
    clear b1
    have B4 := B2.alloc (.cells #[.string s', .int .i64 e'] 78)
    have y0 := B4.c0
    have y1 := B4.c1
    have yf0 := B4.f 0
    have yf1 := B4.f 1
    go_wp2_with fail
    obtain ⟨w2, hw2, z0, z1, b3⟩ := end_box B4 (bb.alloc bb.size _) (by omega) s' e'
    rw [← hw2]
    refine bodyPost_ret (by simp [results, Try.results47, go_sem, z0, z1]; try rfl) rfl ?_
    refine ⟨?_, b3⟩
    unfold rv vInt
    simp only [hu.out]
end Go.Proofs.Ythdkflmkcoabaaa.Bt
