/-
  A TELLER's Add.
-/
import Derived.Test.YtbghjcfepjbppaaTfr
import Derived.Deep.Cut
import Derived.Deep.RegionHeld3
namespace Go.Proofs.Ytbghjcfepjbppaa
open Go.RowKit
theorem info31 : (Try.prog.info? 31).map (fun i => (i.zero, i.size, i.bytes)) = some (some (.agg #[.int .i64 0, .int .i64 0, .int .i64 0, .string ⟨#[]⟩, .slice none 0 0]), 5, 64) := by kernel_rfl
theorem one_encE (a b c : Int) (k : ByteArray) (p : Option Addr) (n cp : Nat) : ∀ u ∈ encE a b c k (.slice p n cp), u.oneCell' = true := by
  intro u hu
  simp only [encE, List.mem_cons, List.not_mem_nil, or_false] at hu
  rcases hu with rfl | rfl | rfl | rfl | rfl <;> rfl
theorem add_nil (e : Value) (a b c : Int) (k : ByteArray) (f : Value) (he : e = evV a b c k f) (w : World) : Calls Try.prog 11 #[.pointer none, e] w fun r w' => r = .returned (.int .i64 1) ∧ Below w.heap.size w w' := by
  subst he
  have FIN := Lib.hid (fun o => (Below.refl w.heap.size w).alloc (Nat.le_refl _) o)
  unfold evV
  go_enter Try.func11, Try.ntmps11
  go_wp2_with fail
  go_ret
  exact ⟨rfl, FIN.out _⟩
theorem hpp_of {w v : World} {Y a : Nat} (hY : Y ≤ w.heap.size) (h : w.heap.size ≤ a ∧ a < v.heap.size) : Y ≤ a ∧ a < v.heap.size := ⟨Nat.le_trans hY h.1, h.2⟩
set_option maxHeartbeats 4000000 in
set_option maxRecDepth 100000 in
theorem add_ok {w : World} {t B : Nat} {nodes to id sq : Int} {ua : Option Addr} {uc n : Nat} {cs : List Value} {rv : Value} {a b c : Int} {k : ByteArray} {L : List Fld} {p : Option Addr} {cp : Nat}
    (T : Blk w t 98 (tel nodes to id sq (.slice ua n uc) rv)) (hB : t < B) (hBw : B ≤ w.heap.size) (ho : w.ownsRow B 31 5 (.slice ua n uc) n cs) (hn : n < 256)
    (CK : ∀ W, Below w.heap.size w W → Calls Try.prog 41 #[evV 1 1 c k (.slice p L.length cp)] W fun e w' => e = .returned (.int .i64 0) ∧ Below W.heap.size W w')
    (CP : ∀ W, Below w.heap.size w W → Calls Try.prog 43 #[evV 0 0 c k (.slice p L.length cp)] W (CopR W 0 0 c k L)) :
    Calls Try.prog 11 #[.pointer (some ⟨t, 0, none⟩), evV a b c k (.slice p L.length cp)] w (AddR w t B nodes to id sq (.slice ua n uc) n cs rv 0 0 c k L) := by
  obtain ⟨i31, hi, hz0, hz1, hz2⟩ := info_parts info31
  obtain ⟨w1, hw1, K1, B1, hs1⟩ : ∃ w1, w1 = w.alloc (.cells #[.int .i64 a, .int .i64 b, .int .i64 c, .string k, .slice p L.length cp] 31) ∧ Blk w1 w.heap.size 31 #[.int .i64 a, .int .i64 b, .int .i64 c, .string k, .slice p L.length cp] ∧ Below w.heap.size w w1 ∧ w1.heap.size = w.heap.size + 1 :=
    ⟨_, rfl, heap_alloc_new w _, (Below.refl w.heap.size w).alloc (Nat.le_refl _) _, by simp⟩
  have hlt := T.lt
  have hw : ∀ q, (Value.slice ua n uc).ownBlock = some q → B ≤ q ∧ q < w.heap.size := fun q hq => World.ownsRow.lt ho q hq
  have NU := Lib.hid (fun W => numbered_any a b c 1 0 k p L.length cp W (by omega))
  have CKh := Lib.hid CK
  have CPh := Lib.hid CP
  have Th := Lib.hid T
  have K1h := Lib.hid K1
  have B1h := Lib.hid B1
  have W1 := Lib.hid hw1
  have END := Lib.hid (fun (v w4 : World) (p' : Option Addr) (cp' g cap : Nat) (o : Obj) (bv : Below w.heap.size w v) (hF : Flds v p' L) (hp : ∀ ad, p' = some ad → w.heap.size ≤ ad.block ∧ ad.block < v.heap.size) (ho' : w4.ownsRow B 31 5 (.slice (some ⟨g, 0, none⟩) (n + 1) cap) (n + 1) (cs ++ encE 0 0 c k (.slice p' L.length cp'))) (hg : (v.alloc o).grownBy w4 (Value.slice ua n uc).ownBlock) (hat : (Value.slice ua n uc).ownBlock = some g ∨ g = (v.alloc o).heap.size) =>
    add_end (w := w) (v := v) (w4 := w4) (cp := cp') (g := g) (cap := cap) (rv := rv) o T hB hw bv hF hp ho' hg hat)
  have OWN := Lib.hid (fun (v : World) (bv : Below w.heap.size w v) => Fr.own ho (Fr.of_below bv (fun _ => False)) (fun _ _ h => h))
  unfold CopR at CPh
  generalize hQ : AddR w t B nodes to id sq (.slice ua n uc) n cs rv 0 0 c k L = Q at *
  clear T K1 B1 hw1 CK CP ho
  unfold evV at *
  have hLn : Hid (L.length = L.length) := Lib.hid rfl
  generalize hLL : L.length = m at *
  have c4 : w1.cell? ⟨t, 4, none⟩ = some (.slice ua n uc) := (Th.out.at_ B1h.out hlt).cell 4
  generalize hy : w.heap.size = Y at *
  go_enter Try.func11, Try.ntmps11
  go_wp2_with fail
  rw [← W1.out]
  have e0 : w1.cell? ⟨Y, 0, none⟩ = some (.int .i64 a) := K1h.out.cell 0
  have e1 : w1.cell? ⟨Y, 1, none⟩ = some (.int .i64 b) := K1h.out.cell 1
  have e2 : w1.cell? ⟨Y, 2, none⟩ = some (.int .i64 c) := K1h.out.cell 2
  have e3 : w1.cell? ⟨Y, 3, none⟩ = some (.string k) := K1h.out.cell 3
  have e4 : w1.cell? ⟨Y, 4, none⟩ = some (.slice p m cp) := K1h.out.cell 4
  go_wp2_with fail
  refine (NU.out _).mono ?_
  rintro e w2 ⟨rfl, b2⟩
  have B2 := Lib.hid (B1h.out.trans (b2.mono (by omega)))
  have K2h := Lib.hid (K1h.out.below b2)
  clear b2 e0 e1 e2 e3 e4 c4
  go_wp2_with fail
  refine (CKh.out _ B2.out).mono ?_
  rintro e w3 ⟨rfl, b3⟩
  have B3 := Lib.hid (B2.out.trans (b3.mono (by have := B2.out.size; omega)))
  have K3h := Lib.hid (K2h.out.below b3)
  have c4 : w3.cell? ⟨t, 4, none⟩ = some (.slice ua n uc) := (Th.out.at_ B3.out hlt).cell 4
  have e0 : w3.cell? ⟨Y, 0, none⟩ = some (.int .i64 a) := K3h.out.cell 0
  have e1 : w3.cell? ⟨Y, 1, none⟩ = some (.int .i64 b) := K3h.out.cell 1
  have e2 : w3.cell? ⟨Y, 2, none⟩ = some (.int .i64 c) := K3h.out.cell 2
  have e3 : w3.cell? ⟨Y, 3, none⟩ = some (.string k) := K3h.out.cell 3
  have e4 : w3.cell? ⟨Y, 4, none⟩ = some (.slice p m cp) := K3h.out.cell 4
  have hn1 : (n : Int) < 256 := by omega
  clear b3 K2h K1h W1 B2 NU CKh
  have fz : ∀ i, w3.frozen? ⟨Y, i, none⟩ = false := K3h.out.free
  go_wp2_with fail
  clear fz
  have hB3 : B ≤ w3.heap.size := by have := B3.out.size; omega
  have hY3 : Y ≤ w3.heap.size := by have := B3.out.size; omega
  have K5 : Blk ((w3.setCell ⟨Y, 0, none⟩ (.int .i64 0)).setCell ⟨Y, 1, none⟩ (.int .i64 0)) Y 31 #[.int .i64 0, .int .i64 0, .int .i64 c, .string k, .slice p m cp] := (K3h.out.set 0 (.int .i64 0)).set 1 (.int .i64 0)
  have B5 := Lib.hid (Below.setCell (p := ⟨Y, 1, none⟩) (Below.setCell (p := ⟨Y, 0, none⟩) B3.out (Nat.le_refl Y) (.int .i64 0)) (Nat.le_refl Y) (.int .i64 0))
  clear e0 e1 e2 e3 e4 c4
  have hs5 : ((w3.setCell ⟨Y, 0, none⟩ (.int .i64 0)).setCell ⟨Y, 1, none⟩ (.int .i64 0)).heap.size = w3.heap.size := by simp
  generalize (w3.setCell ⟨Y, 0, none⟩ (.int .i64 0)).setCell ⟨Y, 1, none⟩ (.int .i64 0) = w5 at *
  have hB5 : B ≤ w5.heap.size := by omega
  have hY5 : Y ≤ w5.heap.size := by omega
  have c4 : w5.cell? ⟨t, 4, none⟩ = some (.slice ua n uc) := (Th.out.at_ B5.out hlt).cell 4
  have e0 : w5.cell? ⟨Y, 0, none⟩ = some (.int .i64 0) := K5.cell 0
  have e1 : w5.cell? ⟨Y, 1, none⟩ = some (.int .i64 0) := K5.cell 1
  have e2 : w5.cell? ⟨Y, 2, none⟩ = some (.int .i64 c) := K5.cell 2
  have e3 : w5.cell? ⟨Y, 3, none⟩ = some (.string k) := K5.cell 3
  have e4 : w5.cell? ⟨Y, 4, none⟩ = some (.slice p m cp) := K5.cell 4
  clear K3h B3 hs5 K5 hB3 hY3
  have BD : Hid (Below Y w w5.drew) := Lib.hid B5.out.drew
  have CALL := Lib.hid (CPh.out w5.drew BD.out)
  clear CPh
  go_region_law
    (first
      | (refine step_append_lies _ rfl (.tmp 26) (.tmp 29) 89 rfl B 31 i31 (.agg #[.int .i64 0, .int .i64 0, .int .i64 0, .string ⟨#[]⟩, .slice none 0 0]) 5 64 Try.underlying89 hi hz0 hz1 hz2 rfl (by decide) (.slice ua n uc) n cs rfl (World.ownsRow.alloc OW2.out _) ⟨v2.heap.size, 0, none⟩ 1 1 (encE 0 0 c k (.slice p2 m cp2)) rfl rfl (World.news_of_block (cs := #[.int .i64 0, .int .i64 0, .int .i64 c, .string k, .slice p2 m cp2]) (heap_alloc_new v2 _)) (one_encE 0 0 c k p2 m cp2) (by decide) (by unfold maxLen; omega) (by omega) (by have := hXv; simp; omega) _ rfl ?_; intro g4 cap4 w4 ho4 hg4 hat4 _; obtain ⟨A4, f4, q4⟩ := END.out v2 w4 p2 cp2 g4 cap4 _ BV.out F2.out hp2.out ho4 hg4 hat4; have A4h := Lib.hid A4; clear A4 ho4 hg4 hat4)
      | (go_simp; go_at_call 43; refine CALL.out.mono ?_; rintro r9 v2 ⟨p2, cp2, rfl, F2, hp2, b2⟩; have BV : Hid (Below Y w v2) := Lib.hid (B5.out.drew.trans (b2.mono hY5)); have OW2 := Lib.hid (OWN.out v2 BV.out); have F2 := Lib.hid F2; have hp2 := Lib.hid (fun ad e => (hpp_of (w := w5.drew) hY5 (hp2 ad e))); have hXv : B ≤ v2.heap.size := Nat.le_trans hB5 b2.size; have c5 : v2.cell? ⟨t, 4, none⟩ = some (.slice ua n uc) := (Th.out.at_ BV.out hlt).cell 4; have hTv : (⟨t, 4, none⟩ : Addr).block < v2.heap.size := (Th.out.at_ BV.out hlt).lt; have c6 : ∀ o, (v2.alloc o).cell? ⟨t, 4, none⟩ = some (.slice ua n uc) := fun o => (World.cell?_alloc_lt _ _ _ hTv).trans c5; clear b2))
  all_goals (go_wp2_with fail; (try go_ret); exact A4h.out)
end Go.Proofs.Ytbghjcfepjbppaa
