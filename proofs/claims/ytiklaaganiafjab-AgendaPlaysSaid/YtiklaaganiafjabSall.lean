/-
  FOR AgendaPlays: All: a copy of the items, sorted.
-/
import Derived.Test.YtiklaaganiafjabRdue
import Derived.Test.YtiklaaganiafjabShelf
import Derived.Lib.QuietBelow
namespace Go.Proofs.Ytiklaaganiafjab
open Go.RowKit
open Go.Sort (grow SWO PermIn SortedIn)
set_option maxRecDepth 100000 in
theorem order_lays (x y : It) (w : World) : Calls Try.prog 26 #[agg x, agg y] w fun e w' => e = .returned (.int .i64 (cfI x y)) ∧ ∃ q os, w' = grow (w.drewN q) os := by
  unfold agg cfI
  have A := fun w => (compare_any x.t y.t w).mono (fun _ _ h => ⟨h.1, h.2.symm⟩ : ∀ e w', _ → (e = .returned (.int .i64 (cmpI x.t y.t)) ∧ w' = w))
  have B := fun w => (compare_any x.i y.i w).mono (fun _ _ h => ⟨h.1, h.2.symm⟩ : ∀ e w', _ → (e = .returned (.int .i64 (cmpI x.i y.i)) ∧ w' = w))
  generalize cmpI x.t y.t = p at *
  generalize cmpI x.i y.i = q at *
  go_enter Try.func26, Try.ntmps26
  go_wp2_with fail
  obtain ⟨w2, hw2⟩ : ∃ w2 : World, w2 = (w.alloc (Obj.cells #[Value.int IntKind.i64 x.t, Value.int IntKind.i64 x.i, Value.int IntKind.i64 x.x] 46)).alloc (Obj.cells #[Value.int IntKind.i64 y.t, Value.int IntKind.i64 y.i, Value.int IntKind.i64 y.x] 46) := ⟨_, rfl⟩
  rw [← hw2]
  have x0 : w2.cell? ⟨w.heap.size, 0, none⟩ = some (.int .i64 x.t) := by rw [hw2]; go_simp
  have x1 : w2.cell? ⟨w.heap.size, 1, none⟩ = some (.int .i64 x.i) := by rw [hw2]; go_simp
  have y0 : w2.cell? ⟨w.heap.size + 1, 0, none⟩ = some (.int .i64 y.t) := by rw [hw2]; go_simp
  have y1 : w2.cell? ⟨w.heap.size + 1, 1, none⟩ = some (.int .i64 y.i) := by rw [hw2]; go_simp
  have b2 : Hid (∃ os, w2.drew = grow (w.drewN 1) os) := Lib.hid ⟨#[Obj.cells #[Value.int IntKind.i64 x.t, Value.int IntKind.i64 x.i, Value.int IntKind.i64 x.x] 46, Obj.cells #[Value.int IntKind.i64 y.t, Value.int IntKind.i64 y.i, Value.int IntKind.i64 y.x] 46], by
    rw [hw2]
    unfold World.drew World.drewN World.alloc grow
    simp only [World.mk.injEq, and_true]
    apply Array.toList_inj.1
    simp⟩
  clear hw2
  refine wp_region_still_tail 10 (by kernel_rfl) (by kernel_rfl) ?_
  simp only [List.take_succ_cons, List.take_zero, List.drop_succ_cons, List.drop_zero]
  still_step
  still_step
  still_step
  still_step
  still_call (A _)
  still_step
  still_step
  still_step
  still_step
  still_call (B _)
  refine wpStill_nil ?_
  change wpList _ _ _ _ _ w2.drew
  generalize w2.drew = w3 at *
  go_wp2_with (go_at_call 35; refine (or_any p q _ _ (by go_simp) (by go_simp)).mono ?_; rintro r w1 ⟨rfl, rfl⟩)
  all_goals go_ret
  all_goals
    obtain ⟨os, hos⟩ := b2.out
    have AG : ∀ o, w3.alloc o = grow (w.drewN 1) (os ++ #[o]) := fun o => by rw [hos, Go.Sort.alloc_eq_grow, Go.Sort.grow_grow]
    exact ⟨rfl, 1, _, AG _⟩
theorem swo_cf : SWO (Go.Proofs.ltOf cfI) where
  irrefl x := by unfold Go.Proofs.ltOf; rw [lt_cf]; simp [It.lt]
  trans x y z h1 h2 := by unfold Go.Proofs.ltOf at *; rw [lt_cf] at *; simp only [decide_eq_true_eq] at *; exact lt_trans h1 h2
  ntrans x y z h1 h2 := by unfold Go.Proofs.ltOf at *; rw [lt_cf] at *; simp only [decide_eq_false_iff_not] at *; unfold It.lt at *; omega
theorem isAgg46 (w : World) : (isAgg 46).run Try.prog w = .ok true w := by kernel_rfl
theorem sizeOf46 (w : World) : (Go.sizeOf 46).run Try.prog w = .ok 3 w := by kernel_rfl
theorem enters26 : ∀ args w, (callFunc 26 args).run Try.prog w = .ok (.enter 26 args) w := enters_of Try.func26 (by kernel_rfl) rfl
theorem holds_row {w : World} {B g cap : Nat} {l : List It} (h : RowG w B g cap l) : Go.Sort.HoldsK enc 3 w g 0 l.toArray := by
  intro j hj
  rw [Go.Sort.size_flatK] at hj
  have hj3 : j / 3 < l.length := by simp at hj; omega
  rw [Go.Sort.get_flatK _ _ _ _ hj]
  have e1 : l.toArray[j / 3]! = l[j / 3] := by simp [hj3]
  rw [e1]
  obtain ⟨c1, c2, c3⟩ := h.cell hj3
  have hf : w.frozen? ⟨g, 0 + j, none⟩ = false := World.ownsRow.frozenAt h _
  refine ⟨?_, hf⟩
  have hm : j % 3 = 0 ∨ j % 3 = 1 ∨ j % 3 = 2 := by omega
  rcases hm with e | e | e
  · have e2 : 0 + j = j / 3 * 3 := by omega
    rw [e2, c1, e]; rfl
  · have e2 : 0 + j = j / 3 * 3 + 1 := by omega
    rw [e2, c2, e]; rfl
  · have e2 : 0 + j = j / 3 * 3 + 2 := by omega
    rw [e2, c3, e]; rfl
theorem cells_holds {w : World} {g : Nat} {d : Array It} (hg : g < w.heap.size) (h : Go.Sort.HoldsK enc 3 w g 0 d) : Its w (some ⟨g, 0, none⟩) d.toList := by
  intro p hp
  have hp' : p < d.size := by simpa using hp
  have F : ∀ j, j < 3 → w.cell? ⟨g, 0 + (p * 3 + j), none⟩ = some ((enc d[p]!)[j]!) := fun j hj => by
    have hk : p * 3 + j < d.size * 3 := by omega
    have h1 := (h (p * 3 + j) (by rw [Go.Sort.size_flatK]; exact hk)).1
    rw [Go.Sort.get_flatK _ _ _ _ hk] at h1
    have e1 : (p * 3 + j) / 3 = p := by omega
    have e2 : (p * 3 + j) % 3 = j := by omega
    rw [e1, e2] at h1
    exact h1
  have e0 : d[p]! = d.toList[p] := by simp [hp']
  refine ⟨g, 0, rfl, hg, ?_, ?_, ?_⟩
  · have := F 0 (by omega); rw [e0] at this; exact this
  · have := F 1 (by omega); rw [e0] at this; rw [Nat.add_assoc]; exact this
  · have := F 2 (by omega); rw [e0] at this; rw [Nat.add_assoc]; exact this
theorem below_sorted {w w' : World} {B g : Nat} {d : Array It} (hB : B ≤ g) (hBw : B ≤ w.heap.size) (h : Go.Proofs.SWK enc 3 w g 0 d w') : Below B w w' := by
  obtain ⟨n, os, rfl⟩ := h
  unfold Go.Proofs.sortWorldK Go.Sort.putRowK Go.Sort.putRow Go.Sort.mapBlock grow Go.Sort.ahead
  refine ⟨rfl, rfl, rfl, by simp, fun q hq => ?_⟩
  simp only
  rw [Array.getElem?_append_left (by simp; omega), Array.getElem?_modify, if_neg (by omega)]
theorem sorted_of {l : List It} {d : Array It} (hP : PermIn 0 l.length l.toArray d) (hS : SortedIn (Go.Proofs.ltOf cfI) 0 l.length d) (hi : l.Pairwise (fun x y => x.i ≠ y.i)) : d.toList.Perm l ∧ Sorted d.toList := by
  have hsz : d.size = l.length := by have := hP.1; simpa using this
  have hp : d.toList.Perm l := by
    have := hP.2.2
    rw [show d.extract 0 l.length = d from by rw [← hsz]; simp, show l.toArray.extract 0 l.length = l.toArray from by simp] at this
    simpa using this
  refine ⟨hp, ?_⟩
  have hi' : d.toList.Pairwise (fun x y => x.i ≠ y.i) := (hp.symm.pairwise_iff (fun {a b} (h : a.i ≠ b.i) => h.symm)).1 hi
  unfold Sorted
  rw [List.pairwise_iff_getElem] at *
  intro i j hi1 hj1 hij
  have h1 := hS i j (Nat.zero_le _) hij (by simpa [hsz] using hj1)
  have h2 := hi' i j hi1 hj1 hij
  have e1 : d[i]! = d.toList[i] := by have : i < d.size := by simpa using hi1
                                      simp [this]
  have e2 : d[j]! = d.toList[j] := by have : j < d.size := by simpa using hj1
                                      simp [this]
  rw [e1, e2] at h1
  unfold Go.Proofs.ltOf at h1
  rw [lt_cf] at h1
  simp only [decide_eq_false_iff_not] at h1
  exact lt_total h1 (fun e => h2 e.symm)
theorem sort_any (g cap B : Nat) (l : List It) (w : World) (h : RowG w B g cap l) (hl : l.length ≤ 4097) (hi : l.Pairwise (fun x y => x.i ≠ y.i)) :
    Calls Try.prog 25 #[.slice (some ⟨g, 0, none⟩) l.length cap, .func (.func 26) #[] #[]] w fun e w' => e = .returned (.tuple #[]) ∧ ∃ S, S.Perm l ∧ Sorted S ∧ Its w' (some ⟨g, 0, none⟩) S ∧ Below (min B w.heap.size) w w' := by
  have hg : B ≤ g ∧ g < w.heap.size := World.ownsRow.lt h g rfl
  have hH := holds_row h
  have hsz : l.toArray.size < 4611686018427387904 := by simp; omega
  have hcmp : Go.Proofs.CmpLays Try.prog 26 #[] enc 3 cfI g 0 l.toArray.size w := fun m os dk hs x y => order_lays x y _
  have hlim : Lib.bitLen l.toArray.size < 4611686018427387904 := Nat.lt_of_le_of_lt (Lib.bitLen_le l.toArray.size 62 (by omega) (by omega)) (by omega)
  have hp := AnyQ.pdqsortCmpFunc_all (P := Try.prog) Try.srt 3 isAgg46 sizeOf46 enc cfI 26 #[] swo_cf g 0 cap l.toArray w enters26 hcmp ⟨fun _ => rfl, fun x v hv => by simp [enc] at hv; rcases hv with rfl | rfl | rfl <;> rfl, hH, hg.2⟩ (l.toArray.size + 1) 0 l.toArray.size (Lib.bitLen l.toArray.size) l.toArray w (by omega) rfl (Go.Proofs.SWK.start hH) (Nat.zero_le _) (Nat.le_refl _) hsz hlim (Or.inl rfl)
  have hfin := Go.Sort.pdq_sorts (Go.Proofs.ltOf cfI) swo_cf l.toArray 0 l.toArray.size (Lib.bitLen l.toArray.size) true true (Nat.zero_le _) (Nat.le_refl _) (Or.inl rfl)
  have hl2 := Try.bits_Len (l.toArray.size : Int) w (by omega) (by omega)
  change Calls Try.prog 33 _ _ _ at hp
  rw [Int.toNat_natCast] at hl2
  generalize Lib.bitLen l.toArray.size = bl at *
  generalize Go.Sort.pdq (Go.Proofs.ltOf cfI) l.toArray 0 l.toArray.size bl true true = d at *
  have es : l.toArray.size = l.length := by simp
  rw [es] at hp hl2 hfin
  have HS := Lib.hid (sorted_of hfin.1 hfin.2 hi)
  have HP := Lib.hid hp
  have HL := Lib.hid hl2
  have HH := Lib.hid hH
  have HG := Lib.hid hg.2
  have FIN : Hid (∀ w', Go.Proofs.SWK enc 3 w g 0 d w' → ∃ S, S.Perm l ∧ Sorted S ∧ Its w' (some ⟨g, 0, none⟩) S ∧ Below (min B w.heap.size) w w') := Lib.hid (fun w' hw => by
    have h1 := hw.holds hg.2 hH (by have := hfin.1.1; simpa using this)
    exact ⟨d.toList, HS.out.1, HS.out.2, cells_holds (hw.lt hg.2) h1, below_sorted (by omega) (by omega) hw⟩)
  generalize l.length = n at *
  have wr : IntKind.u64.wrap (n : Int) = n := by simp [IntKind.wrap, IntKind.bits, IntKind.signed]; omega
  clear hp hl2 hH hg hfin hcmp h HS hi es HH HG hsz
  go_enter Try.func25, Try.ntmps25
  go_wp2_with fail
  refine HL.out.mono ?_
  rintro e w' ⟨rfl, rfl⟩
  go_wp2_with fail
  refine HP.out.mono ?_
  rintro e w' ⟨rfl, hw⟩
  have HW := Lib.hid hw
  clear hw
  go_wp2_with fail
  go_end0
  exact ⟨rfl, FIN.out _ HW.out⟩
end Go.Proofs.Ytiklaaganiafjab
