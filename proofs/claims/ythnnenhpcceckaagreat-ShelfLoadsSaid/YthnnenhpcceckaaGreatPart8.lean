/-
  WHAT THE ROWS REST ON, part 8: Frame Its Nms Nms2 Fil Open Cal Lrf Lpg Lrs Lll.
-/
import Derived.Test.YthnnenhpcceckaaGreatRows
import Derived.WalkKit
import Derived.ProofKit
import Derived.OpenShut
import Derived.ShutString
import Derived.SizedLaws
import Derived.Laws.Cover2
import Derived.WalkSmall
import Derived.SliceStrings
import Derived.Shelf.SlGeneric
import Derived.Shelf.SlIter.Nil
import Derived.Shelf.SortM.Plain
import Derived.Shelf.SortM.SortNone
import Derived.Ground.GgzProg
import Derived.Ground.SlgmProg
import Derived.Deep.AppendLies
import Derived.Laws.OwnMore
import Derived.Deep.QuietTactic
import Derived.BigQuiet
import Derived.ChangeSlices
import Derived.Deep.Slices
import Derived.Deep.Fields
import Derived.ChangeSame
import Derived.Lib.SmallJoins
import Derived.StillTailTactics
import Derived.Test.YthnnenhpcceckaaGreatPart7
/-
  FOR THE ROWS: whatever the arguments' types: a law that answers true, and below whose heap's old end nothing has turned, leaves each argument as it read.
-/
namespace Go.Proofs.YthnnenhpcceckaaGreat
open Go.ChangeShapes Go.WideShapes Go.ChangeAt Go.RowKit
theorem own : ownKnob Tryz.prog.godebug = none := by kernel_rfl
theorem laidOut : laidOutB Tryz.prog = true := by kernel_rfl
section
variable {H : Type} {enc : TypeId × Value → H} {P : Program}
theorem trodAll_below (hl : laidOutB P = true) {W W' : World} (hb : Below W.heap.size W W') : ∀ (ts : List TypeId) (vs : List Value) (ds : List (DataW H)) (ps : List MemPlace),
    (∀ t ∈ ts, P.readableRec t = true ∧ t < P.types.size) → DataW.TrodAll enc P W 0 (fun _ => true) true ts vs ds ps → (∀ x ∈ ps, x.block < W.heap.size) →
    DataW.TrodAll enc P W' 0 (fun b => decide (b < W.heap.size)) true ts vs ds ps
  | [], vs, ds, ps, _, h, _ => by
    obtain ⟨rfl, rfl, rfl⟩ := trodAll_nil h
    exact trodAll_mk0
  | t :: ts, vs, ds, ps, hr, h, hlt => by
    obtain ⟨v, vs', d, ds', p, q, rfl, rfl, rfl, h0, h1⟩ := trodAll_cons h
    exact trodAll_cons_mk (Below.trod hl (hr t (by simp)).1 (hr t (by simp)).2 h0 hb (fun x hx => hlt x (by simp [hx])))
      (trodAll_below hl hb ts vs' ds' q (fun u hu => hr u (by simp [hu])) h1 (fun x hx => hlt x (by simp [hx])))
/-- the end of every law's row -/
theorem law_post {f : Func} {s : ChangeSpec} {tb : TypeId} {apart fresh handsOn : Bool} {W W' : World} {args : Array Value} {ds : List (DataW H)} {before pa : List MemPlace}
    (hl : laidOutB P = true) (hr : ∀ t ∈ f.params.toList, P.readableRec t = true ∧ t < P.types.size) (hv : s.vars = []) (ht : f.resultTypes = #[tb]) (hb : P.underlying tb = some .bool)
    (hfn : s.fn H (ds ++ []) = { results := [.lit (.bool true)], args := ds })
    (hW : DataW.Whole enc P f.params.toList s.vars apart W args.toList ds [] before)
    (hA : DataW.TrodAll enc P W 0 (fun _ => true) true f.params.toList args.toList ds pa)
    (hlt : ∀ x ∈ pa, x.block < W.heap.size) (hk : Below W.heap.size W W') :
    s.post enc P f apart fresh handsOn false W args (.bool true) W' := by
  refine ⟨ds, [], before, [], pa, [], hW, ?_, ?_, ?_, hk.frame _, fun h => by cases h⟩
  · rw [ht, hfn]
    exact trodAll_cons_mk (shut_bool hb _) trodAll_mk0
  · rw [hfn]
    exact trodAll_below hl hk _ _ _ _ hr hA hlt
  · rw [hv, hfn]
    rfl
end
end Go.Proofs.YthnnenhpcceckaaGreat
/-
  DERIVED: THE SHELF's CONTRACTS AT THIS DUMP, IN PLAIN WORDS (tools/lay-plain.mjs out of 'TryzIter.lean', which tools/lay-shelf.mjs wrote): THE SAME DECLARATIONS UNDER THE SAME NAMES: 'import', 'namespace', 'open', 'def', 'theorem' AND NOTHING ELSE: no command of the shelf's: FOR A HAND-IN. Each laying: the table of numbers ('.._ren') and one theorem, a field a fact of the dump's own or the kernel's comparison; each contract: ONE APPLICATION.
-/
namespace Go.Proofs
open Go.Shelf
def Tryz.keys38_ren : Go.Shelf.Ren := ⟨fun | 7 => 38 | 10 => 61 | n => n, fun | 23 => 48 | 26 => 9 | 3 => 55 | 28 => 93 | 0 => 0 | 27 => 92 | 33 => 56 | 4 => 4 | n => n, fun | n => n⟩
theorem Tryz.keys38 : Go.Proofs.SlLaysZ.n7 Tryz.prog Tryz.keys38_ren := {
  mixed := by kernel_rfl
  f7 := ⟨Tryz.f38.name, by decide, Tryz.func38.trans (congrArg some (by kernel_rfl))⟩
  f10 := ⟨Tryz.f61.name, by decide, Tryz.func61.trans (congrArg some (by kernel_rfl))⟩
  t0 := Tryz.underlying0
  a0 := Tryz.isAgg0
  z0 := Tryz.sizeOf0
  v0 := Tryz.zeroValue0
  t4 := Tryz.underlying4
  a4 := Tryz.isAgg4
  z4 := Tryz.sizeOf4
  v4 := Tryz.zeroValue4
  t23 := Tryz.underlying48
  a23 := Tryz.isAgg48
  z23 := Tryz.sizeOf48
  v23 := Tryz.zeroValue48
  t26 := Tryz.underlying9
  a26 := Tryz.isAgg9
  z26 := Tryz.sizeOf9
  v26 := Tryz.zeroValue9
  t27 := Tryz.underlying92
  a27 := Tryz.isAgg92
  z27 := Tryz.sizeOf92
  v27 := Tryz.zeroValue92
  t28 := Tryz.underlying93
  a28 := Tryz.isAgg93
  z28 := Tryz.sizeOf93
  v28 := Tryz.zeroValue93
  t33 := Tryz.underlying56
  a33 := Tryz.isAgg56
  z33 := Tryz.sizeOf56
  v33 := Tryz.zeroValue56 }
def Tryz.sorted37_ren : Go.Shelf.Ren := ⟨fun | 6 => 37 | 8 => 59 | 9 => 60 | 11 => 79 | 13 => 81 | 12 => 80 | 23 => 104 | 24 => 105 | 14 => 95 | 15 => 96 | 16 => 97 | 17 => 98 | 18 => 99 | 19 => 100 | 20 => 101 | 21 => 102 | 22 => 103 | 25 => 110 | 26 => 111 | 27 => 112 | 28 => 113 | 29 => 114 | 30 => 115 | 31 => 116 | n => n, fun | 26 => 9 | 28 => 93 | 24 => 64 | 0 => 0 | 3 => 3 | 37 => 144 | 48 => 151 | 50 => 106 | 4 => 4 | 40 => 163 | 39 => 162 | 45 => 168 | 5 => 5 | 9 => 9 | 51 => 174 | 55 => 177 | 57 => 179 | 58 => 180 | 33 => 56 | n => n, fun | n => n⟩
theorem Tryz.sorted37 : Go.Proofs.SlLaysZ.n6 Tryz.prog Tryz.sorted37_ren := {
  mixed := by kernel_rfl
  f6 := ⟨Tryz.f37.name, by decide, Tryz.func37.trans (congrArg some (by kernel_rfl))⟩
  f8 := ⟨Tryz.f59.name, by decide, Tryz.func59.trans (congrArg some (by kernel_rfl))⟩
  f11 := ⟨Tryz.f79.name, by decide, Tryz.func79.trans (congrArg some (by kernel_rfl))⟩
  t0 := Tryz.underlying0
  a0 := Tryz.isAgg0
  z0 := Tryz.sizeOf0
  v0 := Tryz.zeroValue0
  t24 := Tryz.underlying64
  a24 := Tryz.isAgg64
  z24 := Tryz.sizeOf64
  v24 := Tryz.zeroValue64
  t26 := Tryz.underlying9
  a26 := Tryz.isAgg9
  z26 := Tryz.sizeOf9
  v26 := Tryz.zeroValue9
  t28 := Tryz.underlying93
  a28 := Tryz.isAgg93
  z28 := Tryz.sizeOf93
  v28 := Tryz.zeroValue93
  i26 := by kernel_rfl }
def Tryz.sort60_ren : Go.Shelf.Ren := ⟨fun | 6 => 60 | 8 => 81 | 9 => 80 | 19 => 104 | 20 => 105 | 21 => 95 | 22 => 96 | 23 => 97 | 24 => 98 | 25 => 99 | 26 => 100 | 27 => 101 | 28 => 102 | 29 => 103 | 36 => 110 | 31 => 111 | 32 => 112 | 37 => 113 | 38 => 114 | 39 => 115 | 41 => 116 | n => n, fun | 27 => 64 | 29 => 9 | 3 => 3 | 32 => 144 | 26 => 64 | 0 => 0 | 44 => 151 | 46 => 106 | 4 => 4 | 36 => 163 | 35 => 162 | 41 => 168 | 5 => 5 | 9 => 9 | 53 => 174 | 57 => 177 | 63 => 179 | 64 => 180 | n => n, fun | n => n⟩
theorem Tryz.sort60 : Go.Proofs.SlLaysM.n6 Tryz.prog Tryz.sort60_ren := {
  mixed := by kernel_rfl
  f6 := ⟨Tryz.f60.name, by decide, Tryz.func60.trans (congrArg some (by kernel_rfl))⟩
  f8 := Tryz.func81.trans (congrArg some (by kernel_rfl))
  f9 := ⟨Tryz.f80.name, by decide, Tryz.func80.trans (congrArg some (by kernel_rfl))⟩
  f19 := Tryz.func104.trans (congrArg some (by kernel_rfl))
  f20 := Tryz.func105.trans (congrArg some (by kernel_rfl))
  f21 := ⟨Tryz.f95.name, by decide, Tryz.func95.trans (congrArg some (by kernel_rfl))⟩
  f22 := ⟨Tryz.f96.name, by decide, Tryz.func96.trans (congrArg some (by kernel_rfl))⟩
  f23 := ⟨Tryz.f97.name, by decide, Tryz.func97.trans (congrArg some (by kernel_rfl))⟩
  f24 := ⟨Tryz.f98.name, by decide, Tryz.func98.trans (congrArg some (by kernel_rfl))⟩
  f25 := ⟨Tryz.f99.name, by decide, Tryz.func99.trans (congrArg some (by kernel_rfl))⟩
  f26 := ⟨Tryz.f100.name, by decide, Tryz.func100.trans (congrArg some (by kernel_rfl))⟩
  f27 := ⟨Tryz.f101.name, by decide, Tryz.func101.trans (congrArg some (by kernel_rfl))⟩
  f28 := ⟨Tryz.f102.name, by decide, Tryz.func102.trans (congrArg some (by kernel_rfl))⟩
  f29 := ⟨Tryz.f103.name, by decide, Tryz.func103.trans (congrArg some (by kernel_rfl))⟩
  f31 := Tryz.func111.trans (congrArg some (by kernel_rfl))
  f32 := Tryz.func112.trans (congrArg some (by kernel_rfl))
  f36 := ⟨Tryz.f110.name, by decide, Tryz.func110.trans (congrArg some (by kernel_rfl))⟩
  f37 := ⟨Tryz.f113.name, by decide, Tryz.func113.trans (congrArg some (by kernel_rfl))⟩
  f38 := ⟨Tryz.f114.name, by decide, Tryz.func114.trans (congrArg some (by kernel_rfl))⟩
  f39 := ⟨Tryz.f115.name, by decide, Tryz.func115.trans (congrArg some (by kernel_rfl))⟩
  f41 := ⟨Tryz.f116.name, by decide, Tryz.func116.trans (congrArg some (by kernel_rfl))⟩
  t0 := Tryz.underlying0
  a0 := Tryz.isAgg0
  z0 := Tryz.sizeOf0
  v0 := Tryz.zeroValue0
  t3 := Tryz.underlying3
  a3 := Tryz.isAgg3
  z3 := Tryz.sizeOf3
  v3 := Tryz.zeroValue3
  t4 := Tryz.underlying4
  a4 := Tryz.isAgg4
  z4 := Tryz.sizeOf4
  v4 := Tryz.zeroValue4
  t5 := Tryz.underlying5
  a5 := Tryz.isAgg5
  z5 := Tryz.sizeOf5
  v5 := Tryz.zeroValue5
  t9 := Tryz.underlying9
  a9 := Tryz.isAgg9
  z9 := Tryz.sizeOf9
  v9 := Tryz.zeroValue9
  t26 := Tryz.underlying64
  a26 := Tryz.isAgg64
  z26 := Tryz.sizeOf64
  v26 := Tryz.zeroValue64
  t27 := Tryz.underlying64
  a27 := Tryz.isAgg64
  z27 := Tryz.sizeOf64
  v27 := Tryz.zeroValue64
  t29 := Tryz.underlying9
  a29 := Tryz.isAgg9
  z29 := Tryz.sizeOf9
  v29 := Tryz.zeroValue9
  t32 := Tryz.underlying144
  a32 := Tryz.isAgg144
  z32 := Tryz.sizeOf144
  v32 := Tryz.zeroValue144
  t35 := Tryz.underlying162
  a35 := Tryz.isAgg162
  z35 := Tryz.sizeOf162
  v35 := Tryz.zeroValue162
  t36 := Tryz.underlying163
  a36 := Tryz.isAgg163
  z36 := Tryz.sizeOf163
  v36 := Tryz.zeroValue163
  t41 := Tryz.underlying168
  a41 := Tryz.isAgg168
  z41 := Tryz.sizeOf168
  v41 := Tryz.zeroValue168
  t44 := Tryz.underlying151
  a44 := Tryz.isAgg151
  z44 := Tryz.sizeOf151
  v44 := Tryz.zeroValue151
  t46 := Tryz.underlying106
  a46 := Tryz.isAgg106
  z46 := Tryz.sizeOf106
  v46 := Tryz.zeroValue106
  t53 := Tryz.underlying174
  a53 := Tryz.isAgg174
  z53 := Tryz.sizeOf174
  v53 := Tryz.zeroValue174
  t57 := Tryz.underlying177
  a57 := Tryz.isAgg177
  z57 := Tryz.sizeOf177
  v57 := Tryz.zeroValue177
  t63 := Tryz.underlying179
  a63 := Tryz.isAgg179
  z63 := Tryz.sizeOf179
  v63 := Tryz.zeroValue179
  t64 := Tryz.underlying180
  a64 := Tryz.isAgg180
  z64 := Tryz.sizeOf180
  v64 := Tryz.zeroValue180 }
open Go.RowKit Go.Maps Go.Sort Go.Shelf in
theorem Tryz.sorts37 (m : Nat) : AnyZ.SortsIn Tryz.prog Tryz.sorted37_ren Fence.wide m :=
  ⟨fun blk off cap ss W hH hblk hsz => callsIn_wide.2 (AnyM.slices_Sort_string Tryz.sort60 blk off cap ss W hH hblk hsz),
   fun p cap W => callsIn_wide.2 (AnyM.slices_Sort_string_none Tryz.sort60 p cap W)⟩
open Go.RowKit Go.Maps Go.Sort Go.Shelf in
theorem Tryz.maps_Keys_38 (mb : Option Nat) (W : World) : CallsIn Fence.wide 5 Tryz.prog 38 #[.map mb] W fun e w' => e = .returned (.func (.func 61) #[] #[.pointer (some ⟨W.heap.size, 0, none⟩)]) ∧ w' = W.alloc (.cells #[.map mb] 48) :=
  AnyZ.keys_in Tryz.keys38 Fence.wide 5 trivial rfl mb W
open Go.RowKit Go.Maps Go.Sort Go.Shelf in
theorem Tryz.slices_Sorted_keys_37_38 {H : Type} (b nn : Nat) (D0 : DataW H) (R : Value → Option (DataW H × List MemPlace)) (w : World) (hown : w.ownsMap Tryz.prog 9 R b nn D0) (hmax : Maps.size D0 ≤ maxLen) (hbytes : Maps.size D0 * 16 ≤ 140737488355328) :
    CallsIn Fence.wide 5 Tryz.prog 37 #[.func (.func 61) #[] #[.pointer (some ⟨w.heap.size, 0, none⟩)]] (w.alloc (.cells #[.map (some b)] 48)) fun e w' => ∃ (v : Value) (ss : List (List UInt8)), e = .returned v ∧ ss.Perm (strKeys D0) ∧
      w'.ownsRow (w.alloc (.cells #[.map (some b)] 48)).heap.size 9 1 v ss.length ((ss.mergeSort (fun x y => decide (x ≤ y))).map encStr) ∧ (v = .slice none 0 0 ↔ ss = []) ∧ Below (w.alloc (.cells #[.map (some b)] 48)).heap.size (w.alloc (.cells #[.map (some b)] 48)) w' := by
  have hbl := hown.lt
  have hseq : SeqGives Fence.wide 2 Tryz.prog 61 #[.pointer (some ⟨w.heap.size, 0, none⟩)] encStr (fun ss => ss.Perm (strKeys D0)) (Maps.size D0) (w.alloc (.cells #[.map (some b)] 48)) :=
    AnyZ.keys_gives (ρ := Tryz.keys38_ren) { Tryz.keys38 with } Fence.wide _ trivial rfl (by omega) w.heap.size b nn D0 _ (by simp) (by simp) (by
      obtain ⟨es, clock, hb, Ft, hs, hD⟩ := hown
      exact ⟨es, clock, (Below.heap_alloc _ _ b hbl).trans hb, Ft, hs, hD⟩)
  exact AnyZ.sorted_in Tryz.sorted37 Fence.wide 5 trivial trivial trivial trivial rfl (by omega) (Tryz.sorts37 _) (enters_of Tryz.func60 (by kernel_rfl) rfl) 61 #[.pointer (some ⟨w.heap.size, 0, none⟩)] trivial (enters_of Tryz.func61 (by kernel_rfl) rfl) _ _ hmax hbytes _ hseq
open Go.RowKit Go.Maps Go.Sort Go.Shelf in
theorem Tryz.slices_Sorted_keys_nil_37_38 (w : World) :
    CallsIn Fence.wide 5 Tryz.prog 37 #[.func (.func 61) #[] #[.pointer (some ⟨w.heap.size, 0, none⟩)]] (w.alloc (.cells #[.map none] 48)) fun e w' => ∃ (v : Value) (ss : List (List UInt8)), e = .returned v ∧ ss = [] ∧
      w'.ownsRow (w.alloc (.cells #[.map none] 48)).heap.size 9 1 v ss.length ((ss.mergeSort (fun x y => decide (x ≤ y))).map encStr) ∧ (v = .slice none 0 0 ↔ ss = []) ∧ Below (w.alloc (.cells #[.map none] 48)).heap.size (w.alloc (.cells #[.map none] 48)) w' := by
  have hseq : SeqGives Fence.wide 2 Tryz.prog 61 #[.pointer (some ⟨w.heap.size, 0, none⟩)] encStr (fun ss : List (List UInt8) => ss = []) 0 (w.alloc (.cells #[.map none] 48)) :=
    AnyZ.keys_gives_nil (ρ := Tryz.keys38_ren) { Tryz.keys38 with } Fence.wide _ trivial rfl w.heap.size _ (by simp) (by simp)
  exact AnyZ.sorted_in Tryz.sorted37 Fence.wide 5 trivial trivial trivial trivial rfl (by omega) (Tryz.sorts37 _) (enters_of Tryz.func60 (by kernel_rfl) rfl) 61 #[.pointer (some ⟨w.heap.size, 0, none⟩)] trivial (enters_of Tryz.func61 (by kernel_rfl) rfl) _ 0 (Nat.zero_le _) (by omega) _ hseq

-- THE CALLER's WALK over 'slices.Sorted(maps.Keys(m))' (inside '(callsIn_wide (n := 6)).1'; 'have hfK : Fence.wide.fn 38 := trivial', 'have hfS : Fence.wide.fn 37 := trivial' ahead): THE TWO ARMS TO PASTE:
--   gi_wp2_with (first
--     | (gi_at_call 38; refine (Tryz.maps_Keys_38 _ _).mono ?_; rintro e w' ⟨rfl, rfl⟩)
--     | (gi_at_call 37; refine (Tryz.slices_Sorted_keys_37_38 b nn D0 R w hown hmax hbytes).mono ?_; rintro e w' ⟨v, ss, rfl, hS, hrow, hnil, hb⟩))


end Go.Proofs
/-
  NO NAMES: Names of no disk, and of one that is down.
-/
namespace Go.Proofs.YthnnenhpcceckaaGreat
open Go.RowKit
theorem names_nil (w : World) : Calls Tryz.prog 21 #[.pointer none] w fun e w' => e = .returned nilS ∧ w = w' := by
  go_enter Tryz.func21, Tryz.ntmps21
  go_wp2_with fail
  refine (ready_nil _).mono ?_
  rintro e w1 ⟨rfl, rfl⟩
  go_wp2_with fail
  first | go_ret | go_ret2
  exact ⟨rfl, rfl⟩
theorem names_down {w : World} {B D m : Nat} {S : St} {L : Lie} (h : DkL w B D m S L) (hd : S.down = true) : Calls Tryz.prog 21 #[.pointer (some ⟨D, 0, none⟩)] w fun e w' => e = .returned nilS ∧ w = w' := by
  have R := Lib.hid (ready_any h.blk)
  unfold readyE at R
  rw [hd, if_pos rfl] at R
  clear h hd
  go_enter Tryz.func21, Tryz.ntmps21
  go_wp2_with fail
  refine R.out.mono ?_
  rintro e w1 ⟨rfl, rfl⟩
  go_wp2_with fail
  first | go_ret | go_ret2
  exact ⟨rfl, rfl⟩
end Go.Proofs.YthnnenhpcceckaaGreat
/-
  NAMES: the files' names, sorted, each once.
-/
namespace Go.Proofs.YthnnenhpcceckaaGreat
open Go.RowKit
/-! ### plain -/
/-- the names, as they stand -/
def keysF (fs : Fm) : List (List UInt8) := fs.map fun p => bl p.1
/-- the names, sorted -/
def namesOf (fs : Fm) : List Nm := ((keysF fs).mergeSort leB).map fun l => (⟨l.toArray⟩ : Nm)
theorem namesOf_len (fs : Fm) : (namesOf fs).length = fs.length := by
  unfold namesOf keysF
  rw [List.length_map, List.length_mergeSort, List.length_map]
theorem nm_bl (s : Nm) : (⟨(bl s).toArray⟩ : Nm) = s := by simp [bl]
theorem bl_nm (l : List UInt8) : bl (⟨l.toArray⟩ : Nm) = l := by simp [bl]
theorem get_isSome {fs : Fm} {s : Nm} : (get fs s).isSome = true ↔ s ∈ fs.map (·.1) := by
  unfold get
  rw [Option.isSome_map, List.find?_isSome, List.mem_map]
  constructor
  · rintro ⟨p, hp, h⟩; exact ⟨p, hp, by simpa using h⟩
  · rintro ⟨p, hp, h⟩; exact ⟨p, hp, by simpa using h⟩
theorem keys_nodup {fs : Fm} (h : Uniq fs) : (keysF fs).Nodup := by
  unfold keysF
  refine List.pairwise_map.2 (h.imp fun {p q} hne e => hne ?_)
  rw [← nm_bl p.1, ← nm_bl q.1, e]
theorem mem_keys {fs : Fm} {x : List UInt8} : x ∈ keysF fs ↔ (get fs (⟨x.toArray⟩ : Nm)).isSome = true := by
  rw [get_isSome]
  unfold keysF
  rw [List.mem_map, List.mem_map]
  constructor
  · rintro ⟨p, hp, rfl⟩; exact ⟨p, hp, (nm_bl p.1).symm⟩
  · rintro ⟨p, hp, h⟩; exact ⟨p, hp, by rw [h, bl_nm]⟩
/-- the map's keys are the names -/
theorem keys_perm {w : World} {M n : Nat} {fs : Fm} (hu : Uniq fs) {D : DataW Value} (hD : w.ownsMap Tryz.prog 9 Rv M n D) (hh : ∀ s, Maps.has D (key s) = (get fs s).isSome) : (keysF fs).Perm (strKeys D) := by
  obtain ⟨es, e, hpw, _⟩ := hD.entries law9
  obtain ⟨es', e', hko⟩ := hD.keysOf
  obtain rfl : es = es' := by rw [e] at e'; simpa using e'
  subst e
  refine perm_strKeys hpw (fun p hp => by obtain ⟨v, hv⟩ := hko p hp; obtain ⟨x, _, hx, _⟩ := Maps.keyOf_str Tryz.underlying9 hv; exact ⟨x, hx⟩) (keys_nodup hu) (fun x => ?_)
  rw [mem_keys, ← hh]
  unfold key
  simp
/-- names in memory -/
def Nmsd (w : World) (a : Option Addr) (K : List Nm) : Prop := ∀ p (h : p < K.length), ∃ g o, a = some ⟨g, o, none⟩ ∧ g < w.heap.size ∧ w.cell? ⟨g, o + p, none⟩ = some (.string K[p])
theorem Nmsd.below {w w' : World} {a : Option Addr} {K : List Nm} (h : Nmsd w a K) (hb : Below w.heap.size w w') : Nmsd w' a K := fun p hp => by
  obtain ⟨g, o, e, hl, c0⟩ := h p hp
  exact ⟨g, o, e, Nat.lt_of_lt_of_le hl hb.size, by rw [hb.cell (p := ⟨g, _, none⟩) hl]; exact c0⟩
def encN (s : Nm) : Value := .string s
theorem nms_row {w : World} {B n cap : Nat} {p : Option Addr} {K : List Nm} (hn : n = K.length) (h : w.ownsRow B 9 1 (.slice p n cap) n (K.map encN)) : Nmsd w p K := by
  rcases h.2 with ⟨e, e0⟩ | ⟨g, cap, cur, e, _⟩
  · intro i hi; omega
  · cases e
    intro i hi
    subst hn
    have hg : g < w.heap.size := (World.ownsRow.lt h g rfl).2
    refine ⟨g, 0, rfl, hg, ?_⟩
    rw [Nat.zero_add, World.ownsRow.cellAt h _ (by omega), List.getElem?_map, List.getElem?_eq_getElem hi]
    rfl
theorem nrow_form {w : World} {B t s : Nat} {v : Value} {n : Nat} {xs : List Value} (h : w.ownsRow B t s v n xs) : ∃ a c, v = .slice a n c := by
  rcases h.2 with ⟨rfl, e⟩ | ⟨g, cap, cur, rfl, _⟩
  · exact ⟨none, 0, by rw [e]⟩
  · exact ⟨_, _, rfl⟩
/-- slices.Sorted(maps.Keys(..)) of the files -/
theorem sorted_call {w : World} {B M n m : Nat} {fs : Fm} {V : Nm → Value} (h : Fls w B M n fs V) (hG : Good fs m) (hm : m ≤ 100000) :
    Calls Tryz.prog 37 #[.func (.func 61) #[] #[.pointer (some ⟨w.heap.size, 0, none⟩)]] (w.alloc (.cells #[.map (some M)] 48)) fun e w' => ∃ p cp, e = .returned (.slice p (namesOf fs).length cp) ∧ Nmsd w' p (namesOf fs) ∧ Below w.heap.size w w' := by
  obtain ⟨D, hD, hh, _⟩ := h.map
  have hp := keys_perm hG.uniq hD hh
  have hsz : Maps.size D ≤ 100000 := by
    have h1 : (strKeys D).length = Maps.size D := by
      obtain ⟨es, rfl, _⟩ := hD.keysOf
      simp [strKeys, Maps.size_eq]
    have h2 := hp.length_eq
    unfold keysF at h2
    rw [List.length_map, h1] at h2
    have := hG.few
    omega
  refine ((callsIn_wide (n := 5)).1 (Tryz.slices_Sorted_keys_37_38 M n D Rv w hD (by unfold maxLen; omega) (by omega))).mono fun e w' hh2 => ?_
  obtain ⟨v, ss, rfl, hS, hrow, hnil, hb⟩ := hh2
  have hK : (ss.mergeSort (fun x y => decide (x ≤ y))).map encStr = (namesOf fs).map encN := by
    have : ss.mergeSort leB = (keysF fs).mergeSort leB := mergeSort_of_perm (hS.trans hp.symm)
    unfold namesOf
    rw [List.map_map, ← this]
    rfl
  rw [hK] at hrow
  have hl : ss.length = (namesOf fs).length := by
    rw [namesOf_len, hS.length_eq, ← hp.length_eq]
    unfold keysF; rw [List.length_map]
  rw [hl] at hrow
  obtain ⟨a, c, rfl⟩ := nrow_form hrow
  exact ⟨a, c, rfl, nms_row rfl hrow, ((Below.refl _ w).alloc (Nat.le_refl _) _).trans (hb.mono (by simp))⟩
theorem keys_call (M : Nat) (w : World) : Calls Tryz.prog 38 #[.map (some M)] w fun e w' => e = .returned (.func (.func 61) #[] #[.pointer (some ⟨w.heap.size, 0, none⟩)]) ∧ w' = w.alloc (.cells #[.map (some M)] 48) := (callsIn_wide (n := 5)).1 (Tryz.maps_Keys_38 (some M) w)
theorem info9 : (Tryz.prog.info? 9).map (fun i => (i.zero, i.size, i.bytes)) = some (some (.string ⟨#[]⟩), 1, 16) := by kernel_rfl
/-- at the head of a round -/
structure NmI (w W : World) (Y : Nat) (K : List Nm) (u : Value) : Prop where
  o : W.ownsRow Y 9 1 u K.length (K.map encN)
  b : Below Y w W
  y : Y ≤ W.heap.size
theorem NmI.below {w W W' : World} {Y : Nat} {K : List Nm} {u : Value} (h : NmI w W Y K u) (b : Below W.heap.size W W') : NmI w W' Y K u :=
  ⟨World.ownsRow.kept h.o (row := none) ⟨b.os, b.tape, b.output, b.size, fun q hq _ => b.block q hq⟩ (by cases u.ownBlock <;> simp), h.b.trans (b.mono h.y), Nat.le_trans h.y b.size⟩
theorem NmI.push {w W w8 : World} {Y g cap : Nat} {K : List Nm} {u : Value} {x : Nm} (h : NmI w W Y K u) (ho : w8.ownsRow Y 9 1 (.slice (some ⟨g, 0, none⟩) (K.length + 1) cap) (K.length + 1) (K.map encN ++ [encN x])) (hg : W.grownBy w8 u.ownBlock) : NmI w w8 Y (K ++ [x]) (.slice (some ⟨g, 0, none⟩) (K.length + 1) cap) :=
  ⟨by rw [List.map_append, List.length_append]; exact ho, h.b.trans ⟨hg.os, hg.tape, hg.output, hg.size, fun q hq => hg.block q (Nat.lt_of_lt_of_le hq h.y) (fun e => by have := (World.ownsRow.lt h.o _ e.symm).1; omega)⟩, Nat.le_trans h.y hg.size⟩
theorem ntake_push {l : List Nm} {k : Nat} (h : k < l.length) : l.take k ++ [l[k]] = l.take (k + 1) := by
  rw [List.take_add_one, List.getElem?_eq_getElem h]; rfl
/-- what Names answers -/
def Namd (w : World) (K : List Nm) (e : Ending) (w' : World) : Prop := ∃ p cp, e = .returned (.slice p K.length cp) ∧ Nmsd w' p K ∧ Below w.heap.size w w'
theorem namd_end {w w1 W : World} {K : List Nm} {n m : Nat} {q : Option Addr} {cq : Nat} (hn : K.length = n) (b1 : Below w.heap.size w w1) (hm : m = n) (h : NmI w1 W w1.heap.size K (.slice q m cq)) : Namd w K (.returned (.slice q m cq)) W := by
  subst hm; subst hn
  exact ⟨q, cq, rfl, nms_row rfl h.o, b1.trans (h.b.mono b1.size)⟩
theorem one_nm (x : Nm) : ∀ u ∈ [encN x], u.oneCell' = true := by
  intro u hu
  simp [encN] at hu
  subst hu; rfl
set_option maxHeartbeats 4000000 in
set_option maxRecDepth 100000 in
theorem names_any {w : World} {B D m : Nat} {S : St} {L : Lie} (h : DkL w B D m S L) (hd : S.down = false) (hz : ∀ s ∈ namesOf S.now, s.size ≤ 64) : Calls Tryz.prog 21 #[.pointer (some ⟨D, 0, none⟩)] w (Namd w (namesOf S.now)) := by
  obtain ⟨i9, hi, hz0, hz1, hz2⟩ := info_parts info9
  have R := Lib.hid (ready_any h.blk)
  unfold readyE at R
  rw [hd] at R
  have hc : w.cell? ⟨D, 2, none⟩ = some (.map (some L.M2)) := h.blk.cell 2
  have SC := Lib.hid (sorted_call h.f2 h.g2 h.low)
  have hle : (namesOf S.now).length ≤ 100000 := by rw [namesOf_len]; have := h.g2.few; have := h.low; omega
  have KC := Lib.hid (keys_call L.M2)
  generalize namesOf S.now = K at *
  generalize L.M2 = M at *
  obtain ⟨n, hn⟩ : ∃ n, K.length = n := ⟨_, rfl⟩
  rw [hn] at SC hle
  have HN := Lib.hid hn
  have HZ := Lib.hid hz
  have RE0 := Lib.hid (fun w1 W q cq m b1 hm h => namd_end (w := w) (w1 := w1) (W := W) (q := q) (cq := cq) (m := m) hn b1 hm h)
  clear h hd hn hz
  generalize hy : w.heap.size = Y at *
  go_enter Tryz.func21, Tryz.ntmps21
  go_wp2_with fail
  refine (R.out).mono ?_
  rintro e w1 ⟨rfl, rfl⟩
  go_wp2_with fail
  refine (KC.out _).mono ?_
  rintro e w1 ⟨rfl, rfl⟩
  try rw [hy]
  go_wp2_with fail
  refine (SC.out).mono ?_
  rintro e w1 ⟨p, cp, rfl, hN, b1⟩
  have N1 := Lib.hid hN
  have RE := Lib.hid (fun W q cq m hm h => RE0.out w1 W q cq m b1 hm h)
  have hY0 : Hid (NmI w1 w1 w1.heap.size [] (.slice none 0 0)) := Lib.hid ⟨World.ownsRow_nil _ _ _ _, Below.refl _ _, Nat.le_refl _⟩
  clear hN b1 SC KC R hc RE0
  generalize hy1 : w1.heap.size = Y1 at *
  go_wp2_with fail
  go_loopw [16, 2] (fun i ts wq => ∃ (k : Nat) (u : Value), i = .int .i64 k ∧ ts = u ∧ k ≤ n ∧ NmI w1 wq Y1 (K.take k) u) (fun i _ _ => n - (intOf i).toNat)
  case atStart => exact ⟨0, .slice none 0 0, rfl, rfl, Nat.zero_le _, by rw [List.take_zero]; exact hY0.out⟩
  case round =>
    obtain ⟨k, u, rfl, rfl, hk, hI⟩ := hrel
    have hT := N1.out.below (by rw [hy1]; exact hI.b)
    obtain ⟨ua, uc, hu⟩ := nrow_form hI.o
    subst hu
    have hlen : (K.take k).length = k := by rw [List.length_take, HN.out]; omega
    have HLk := Lib.hid hlen
    have HI := Lib.hid hI
    rw [hlen] at HI ⊢
    clear hI hlen
    by_cases hkn : k < n
    · have hkL : k < K.length := by rw [HN.out]; exact hkn
      obtain ⟨g0, o, rfl, hg0, c0⟩ := hT k hkL
      have HP := Lib.hid (ntake_push hkL)
      have hx64 := HZ.out K[k] (List.getElem_mem hkL)
      generalize K[k] = x at *
      have CL := Lib.hid (fun W => str_clone x W (by omega))
      clear hT hkL
      go_wp2_with fail
      refine (CL.out _).mono ?_
      rintro e v1 ⟨rfl, b1⟩
      have I1 := Lib.hid (HI.out.below b1)
      clear b1 HI c0 hg0
      have PU := Lib.hid (fun w8 g cap => (I1.out.below ((Below.refl _ v1).alloc (Nat.le_refl _) (.cells #[.string x] 9))).push (w8 := w8) (g := g) (cap := cap) (x := x))
      rw [HLk.out, HP.out] at PU
      have H1C := Lib.hid (one_nm x)
      have OW : Hid (v1.ownsRow Y1 9 1 (.slice ua k uc) k ((K.take k).map encN)) := Lib.hid (by have := I1.out.o; rw [HLk.out] at this; exact this)
      have hYv : Y1 ≤ v1.heap.size := I1.out.y
      go_wp2_with (at_builtin; refine wpList_append_lies _ rfl (.tmp 20) (.tmp 23) 64 rfl Y1 9 i9 (.string ⟨#[]⟩) 1 16 Tryz.underlying64 hi hz0 hz1 hz2 rfl (by decide) (.slice ua k uc) k ((K.take k).map encN) rfl (World.ownsRow.alloc OW.out _) ⟨v1.heap.size, 0, none⟩ 1 1 [encN x] rfl rfl (World.news_of_block (cs := #[.string x]) (heap_alloc_new v1 _)) H1C.out (by decide) (by unfold maxLen; omega) (by omega) (by simp; omega) _ rfl ?_; intro g8 cap8 w8 ho8 hg8 _ _; have I8h := Lib.hid (PU.out w8 g8 cap8 ho8 hg8); clear ho8 hg8)
      go_roundw
      case rel => exact ⟨k + 1, _, by go_num, rfl, by omega, I8h.out⟩
      case measure => simp [intOf]; omega
    · obtain rfl : k = n := by omega
      have I9 := HI.out
      rw [List.take_of_length_le (by rw [HN.out]; exact Nat.le_refl _)] at I9
      have I9h := Lib.hid I9
      clear I9 hT
      go_wp2_with fail
      go_ret
      exact RE.out _ _ _ _ rfl I9h.out
end Go.Proofs.YthnnenhpcceckaaGreat
/-
  FILES: the files of a disk as the document has them, and whether two lists of files are the same.
-/
namespace Go.Proofs.YthnnenhpcceckaaGreat
open Go.RowKit
structure FT where
  n : Nm
  s : ByteArray
def encF (x : FT) : List Value := [.string x.n, .string x.s]
def cellsFT (l : List FT) : List Value := l.flatMap encF
theorem cellsFT_one (l : List FT) (x : FT) : cellsFT (l ++ [x]) = cellsFT l ++ encF x := by unfold cellsFT; rw [List.flatMap_append]; simp
theorem cellsFT_get : ∀ {l : List FT} {k : Nat} (h : k < l.length) (j : Nat), j < 2 → (cellsFT l)[k * 2 + j]? = (encF l[k])[j]?
  | x :: l, 0, _, j, hj => by
    show (encF x ++ cellsFT l)[0 * 2 + j]? = _
    rw [Nat.zero_mul, Nat.zero_add, List.getElem?_append_left (show j < (encF x).length from hj)]; rfl
  | x :: l, k + 1, h, j, hj => by
    have ih := cellsFT_get (l := l) (k := k) (by simpa using h) j hj
    show (encF x ++ cellsFT l)[(k + 1) * 2 + j]? = _
    have e : (encF x).length = 2 := rfl
    rw [List.getElem?_append_right (by omega), e, show (k + 1) * 2 + j - 2 = k * 2 + j by omega]
    exact ih
/-- files in memory -/
def Filed (w : World) (a : Option Addr) (L : List FT) : Prop := ∀ p (h : p < L.length), ∃ g o, a = some ⟨g, o, none⟩ ∧ g < w.heap.size ∧ w.cell? ⟨g, o + p * 2, none⟩ = some (.string L[p].n) ∧ w.cell? ⟨g, o + p * 2 + 1, none⟩ = some (.string L[p].s)
theorem Filed.below {w w' : World} {a : Option Addr} {L : List FT} (h : Filed w a L) (hb : Below w.heap.size w w') : Filed w' a L := fun p hp => by
  obtain ⟨g, o, e, hl, c0, c1⟩ := h p hp
  have q : ∀ {i : Nat} {v : Value}, w.cell? ⟨g, i, none⟩ = some v → w'.cell? ⟨g, i, none⟩ = some v := fun hc => by rw [hb.cell (p := ⟨g, _, none⟩) hl]; exact hc
  exact ⟨g, o, e, Nat.lt_of_lt_of_le hl hb.size, q c0, q c1⟩
theorem Filed.fr {w w' : World} {a : Option Addr} {L : List FT} {P : Nat → Prop} (h : Filed w a L) (F : Fr w w' P) (hP : ∀ ad : Addr, a = some ad → ¬ P ad.block) : Filed w' a L := fun p hp => by
  obtain ⟨g, o, e, hl, c0, c1⟩ := h p hp
  have hb := F.block g hl (hP _ e)
  have q : ∀ {i : Nat} {v : Value}, w.cell? ⟨g, i, none⟩ = some v → w'.cell? ⟨g, i, none⟩ = some v := fun hc => by rw [World.cell?_of_block hb]; exact hc
  exact ⟨g, o, e, Nat.lt_of_lt_of_le hl F.size, q c0, q c1⟩
theorem files_row {w : World} {B n cap : Nat} {p : Option Addr} {L : List FT} (hn : n = L.length) (h : w.ownsRow B 26 2 (.slice p n cap) n (cellsFT L)) : Filed w p L ∧ ∀ ad : Addr, p = some ad → B ≤ ad.block := by
  rcases h.2 with ⟨e, e0⟩ | ⟨g, cap, cur, e, _⟩
  · cases e
    exact ⟨fun i hi => by omega, fun _ h => by cases h⟩
  · cases e
    subst hn
    have hg := World.ownsRow.lt h g rfl
    refine ⟨fun i hi => ⟨g, 0, rfl, hg.2, ?_, ?_⟩, fun ad h => by cases h; exact hg.1⟩
    · have := cellsFT_get hi 0 (by decide); rw [Nat.zero_add, World.ownsRow.cellAt h _ (by omega)]; simpa [encF] using this
    · have := cellsFT_get hi 1 (by decide); rw [Nat.zero_add, World.ownsRow.cellAt h _ (by omega)]; simpa [encF] using this
theorem one_ft (x : FT) : ∀ u ∈ encF x, u.oneCell' = true := by
  intro u hu
  simp [encF] at hu
  rcases hu with rfl | rfl <;> rfl
theorem info71 : (Tryz.prog.info? 26).map (fun i => (i.zero, i.size, i.bytes)) = some (some (.agg #[.string ⟨#[]⟩, .string ⟨#[]⟩]), 2, 32) := by kernel_rfl
/-- the files of a disk -/
def filesOf (S : St) : List FT := (if S.down then [] else namesOf S.now).map fun s => ⟨s, (readV S s).1⟩
/-- at the head of a round -/
structure FlI (w W : World) (Y : Nat) (K : List FT) (u : Value) : Prop where
  o : W.ownsRow Y 26 2 u K.length (cellsFT K)
  b : Below Y w W
  y : Y ≤ W.heap.size
theorem FlI.below {w W W' : World} {Y : Nat} {K : List FT} {u : Value} (h : FlI w W Y K u) (b : Below W.heap.size W W') : FlI w W' Y K u :=
  ⟨World.ownsRow.kept h.o (row := none) ⟨b.os, b.tape, b.output, b.size, fun q hq _ => b.block q hq⟩ (by cases u.ownBlock <;> simp), h.b.trans (b.mono h.y), Nat.le_trans h.y b.size⟩
theorem FlI.push {w W w8 : World} {Y g cap : Nat} {K : List FT} {u : Value} {x : FT} (h : FlI w W Y K u) (ho : w8.ownsRow Y 26 2 (.slice (some ⟨g, 0, none⟩) (K.length + 1) cap) (K.length + 1) (cellsFT K ++ encF x)) (hg : W.grownBy w8 u.ownBlock) : FlI w w8 Y (K ++ [x]) (.slice (some ⟨g, 0, none⟩) (K.length + 1) cap) :=
  ⟨by rw [cellsFT_one, List.length_append]; exact ho, h.b.trans ⟨hg.os, hg.tape, hg.output, hg.size, fun q hq => hg.block q (Nat.lt_of_lt_of_le hq h.y) (fun e => by have := (World.ownsRow.lt h.o _ e.symm).1; omega)⟩, Nat.le_trans h.y hg.size⟩
/-- what Files answers -/
def Filesd (w : World) (L : List FT) (e : Ending) (w' : World) : Prop := ∃ p cp, e = .returned (.slice p L.length cp) ∧ Filed w' p L ∧ Below w.heap.size w w' ∧ ∀ ad : Addr, p = some ad → w.heap.size ≤ ad.block
theorem filesd_end {w w1 W : World} {L : List FT} {n m : Nat} {q : Option Addr} {cq : Nat} (hn : L.length = n) (b1 : Below w.heap.size w w1) (hm : m = n) (h : FlI w1 W w1.heap.size L (.slice q m cq)) : Filesd w L (.returned (.slice q m cq)) W := by
  subst hm; subst hn
  obtain ⟨h1, h2⟩ := files_row rfl h.o
  exact ⟨q, cq, rfl, h1, b1.trans (h.b.mono b1.size), fun ad e => Nat.le_trans b1.size (h2 ad e)⟩
theorem names_met {w : World} {B D m : Nat} {S : St} {L : Lie} (h : DkL w B D m S L) (hz : ∀ s ∈ namesOf S.now, s.size ≤ 64) : Calls Tryz.prog 21 #[.pointer (some ⟨D, 0, none⟩)] w fun e w' => ∃ p cp, e = .returned (.slice p (if S.down then [] else namesOf S.now).length cp) ∧ Nmsd w' p (if S.down then [] else namesOf S.now) ∧ Below w.heap.size w w' := by
  cases hd : S.down
  · exact names_any h hd hz
  · refine (names_down h hd).mono fun e w' hh => ?_
    obtain ⟨rfl, rfl⟩ := hh
    exact ⟨none, 0, rfl, fun p hp => absurd hp (Nat.not_lt_zero p), Below.refl _ _⟩
set_option maxHeartbeats 4000000 in
set_option maxRecDepth 100000 in
theorem files_any {w : World} {B D m : Nat} {S : St} {L : Lie} (h : DkL w B D m S L) (hz : ∀ s ∈ namesOf S.now, s.size ≤ 64) : Calls Tryz.prog 8 #[.pointer (some ⟨D, 0, none⟩)] w (Filesd w (filesOf S)) := by
  obtain ⟨i71, hi, hz0, hz1, hz2⟩ := info_parts info71
  have NC := Lib.hid (names_met h hz)
  have RD := Lib.hid (fun W (b : Below w.heap.size w W) s hs => read_any (h.below b) s hs)
  have hle : (if S.down then [] else namesOf S.now).length ≤ 100000 := by
    split
    · exact Nat.zero_le _
    · rw [namesOf_len]; have := h.g2.few; have := h.low; omega
  have hz' : ∀ s ∈ (if S.down then [] else namesOf S.now), s.size ≤ 64 := by
    split
    · intro s hs; cases hs
    · exact hz
  have hF : filesOf S = (if S.down then [] else namesOf S.now).map fun s => ⟨s, (readV S s).1⟩ := rfl
  generalize (if S.down then [] else namesOf S.now) = K at *
  obtain ⟨F, hFF⟩ : ∃ F, filesOf S = F := ⟨_, rfl⟩
  rw [hFF] at hF ⊢
  have hlF : F.length = K.length := by rw [hF, List.length_map]
  have HAT : Hid (∀ k (h : k < K.length) (h2 : k < F.length), F[k] = ⟨K[k], (readV S K[k]).1⟩) := Lib.hid (fun k h h2 => by simp [hF])
  obtain ⟨n, hn⟩ : ∃ n, K.length = n := ⟨_, rfl⟩
  rw [hn] at NC hle hlF
  have HN := Lib.hid hn
  have HNF := Lib.hid hlF
  have HZ := Lib.hid hz'
  have RE0 := Lib.hid (fun w1 W q cq m b1 hm h => filesd_end (w := w) (w1 := w1) (W := W) (q := q) (cq := cq) (m := m) hlF b1 hm h)
  clear h hz hz' hF hFF hn hlF
  go_enter Tryz.func8, Tryz.ntmps8
  go_wp2_with fail
  refine (NC.out).mono ?_
  rintro e w1 ⟨p, cp, rfl, hN, b1⟩
  have N1 := Lib.hid hN
  have RE := Lib.hid (fun W q cq m hm h => RE0.out w1 W q cq m b1 hm h)
  have B1 := Lib.hid b1
  have hY0 : Hid (FlI w1 w1 w1.heap.size [] (.slice none 0 0)) := Lib.hid ⟨World.ownsRow_nil _ _ _ _, Below.refl _ _, Nat.le_refl _⟩
  clear hN b1 NC RE0
  generalize hy1 : w1.heap.size = Y1 at *
  go_wp2_with fail
  go_loopw [5, 3] (fun i ts wq => ∃ (k : Nat) (u : Value), i = .int .i64 k ∧ ts = u ∧ k ≤ n ∧ FlI w1 wq Y1 (F.take k) u) (fun i _ _ => n - (intOf i).toNat)
  case atStart => exact ⟨0, .slice none 0 0, rfl, rfl, Nat.zero_le _, by rw [List.take_zero]; exact hY0.out⟩
  case round =>
    obtain ⟨k, u, rfl, rfl, hk, hI⟩ := hrel
    have hb1 : Below w1.heap.size w1 wr := by rw [hy1]; exact hI.b
    have hT := N1.out.below hb1
    have BW := Lib.hid (B1.out.trans (hb1.mono B1.out.size))
    obtain ⟨ua, uc, hu⟩ := nrow_form hI.o
    subst hu
    have hlen : (F.take k).length = k := by rw [List.length_take, HNF.out]; omega
    have HLk := Lib.hid hlen
    have HI := Lib.hid hI
    rw [hlen] at HI ⊢
    clear hI hlen hb1
    by_cases hkn : k < n
    · have hkL : k < K.length := by rw [HN.out]; exact hkn
      have hkF : k < F.length := by rw [HNF.out]; exact hkn
      obtain ⟨g0, o, rfl, hg0, c0⟩ := hT k hkL
      have HP0 : F.take k ++ [F[k]] = F.take (k + 1) := by rw [List.take_add_one, List.getElem?_eq_getElem hkF]; rfl
      have hE := HAT.out k hkL hkF
      rw [hE] at HP0
      have HP := Lib.hid HP0
      have hx64 := HZ.out K[k] (List.getElem_mem hkL)
      have TH := Lib.hid hT
      clear hE HP0 hT hkF
      generalize K[k] = x at *
      have RC := Lib.hid (RD.out _ BW.out x (by omega))
      generalize hrv : (readV S x).2 = re at *
      generalize (readV S x).1 = rs at *
      go_wp2_with fail
      refine (RC.out).mono ?_
      rintro e wz ⟨rfl, rfl⟩
      have I1 := HI
      clear HI hg0 RC TH hkL
      have PU := Lib.hid (fun w8 g cap => (I1.out.below ((Below.refl _ wr).alloc (Nat.le_refl _) (.cells #[.string x, .string rs] 26))).push (w8 := w8) (g := g) (cap := cap) (x := ⟨x, rs⟩))
      rw [HLk.out, HP.out] at PU
      have H1C := Lib.hid (one_ft ⟨x, rs⟩)
      have OW : Hid (wr.ownsRow Y1 26 2 (.slice ua k uc) k (cellsFT (F.take k))) := Lib.hid (by have := I1.out.o; rw [HLk.out] at this; exact this)
      have hYv : Y1 ≤ wr.heap.size := I1.out.y
      go_wp2_with (at_builtin; refine wpList_append_lies _ rfl (.tmp 25) (.tmp 32) 22 rfl Y1 26 i71 (.agg #[.string ⟨#[]⟩, .string ⟨#[]⟩]) 2 32 Tryz.underlying22 hi hz0 hz1 hz2 rfl (by decide) (.slice ua k uc) k (cellsFT (F.take k)) rfl (World.ownsRow.alloc OW.out _) ⟨wr.heap.size, 0, none⟩ 1 1 (encF ⟨x, rs⟩) rfl rfl (World.news_of_block (cs := #[.string x, .string rs]) (heap_alloc_new wr _)) H1C.out (by decide) (by unfold maxLen; omega) (by omega) (by simp; omega) _ rfl ?_; intro g8 cap8 w8 ho8 hg8 _ _; have I8h := Lib.hid (PU.out w8 g8 cap8 ho8 hg8); clear ho8 hg8)
      go_roundw
      case rel => exact ⟨k + 1, _, by go_num, rfl, by omega, I8h.out⟩
      case measure => simp [intOf]; omega
    · obtain rfl : k = n := by omega
      have I9 := HI.out
      rw [List.take_of_length_le (by rw [HNF.out]; exact Nat.le_refl _)] at I9
      have I9h := Lib.hid I9
      clear I9 hT
      go_wp2_with fail
      go_ret
      exact RE.out _ _ _ _ rfl I9h.out
end Go.Proofs.YthnnenhpcceckaaGreat
/-
  FOR THE ROW: a slice of files that came in.
-/
namespace Go.Proofs.YthnnenhpcceckaaGreat
section
open Go.Joins Go.ChangeShapes Go.WideShapes Go.RowKit Go.Deep
theorem ce26 : Tryz.prog.cellsOf 26 = 2 := by kernel_rfl
theorem ce9 : Tryz.prog.cellsOf 9 = 1 := by kernel_rfl
theorem add_at (b o n : Nat) : (⟨b, o, none⟩ : Addr).add n = ⟨b, o + n, none⟩ := by unfold Addr.add; split <;> simp_all
variable {H : Type} {enc : TypeId × Value → H} {W : World} {base : Nat} {v : Value} {d : DataW H} {p : List MemPlace}
set_option maxRecDepth 100000 in
theorem open_ft {n : Nat} {cs : List Value} {x : DataW H × List MemPlace} {spare : Nat → Bool} {held : Bool} (h : DataW.trod enc Tryz.prog W base spare held n 26 cs = some x) : ∃ y : FT, cs = [.string y.n, .string y.s] ∧ y.n.size ≤ maxLen := by
  obtain ⟨ys, n', _, _, hlen, _, hf⟩ := DataW.trod_struct Tryz.underlying26 h
  rw [ce26] at hlen
  match cs, hlen with
  | [x0, x1], _ =>
    have f0 : DataW.trod enc Tryz.prog W base spare held n' 9 (([x0, x1].drop 0).take (Tryz.prog.cellsOf 9)) = ys[0]? := hf 0 _ rfl
    have f1 : DataW.trod enc Tryz.prog W base spare held n' 9 (([x0, x1].drop 1).take (Tryz.prog.cellsOf 9)) = ys[1]? := hf 1 _ rfl
    rw [ce9] at f0 f1
    have hys : ys.length = 2 := by assumption
    match ys, hys with
    | [y0, y1], _ =>
      simp only [List.drop_zero, List.take_succ_cons, List.take_zero, List.drop_succ_cons, List.getElem?_cons_zero, List.getElem?_cons_succ] at f0 f1
      obtain ⟨a0, h0, _, w0⟩ := DataW.trod_string Tryz.underlying9 f0
      obtain ⟨a1, h1, _, _⟩ := DataW.trod_string Tryz.underlying9 f1
      simp only [List.cons.injEq, and_true] at h0 h1
      subst h0 h1
      exact ⟨⟨a0, a1⟩, rfl, w0⟩
set_option maxRecDepth 100000 in
theorem open_files (hv : Value.okWide Tryz.prog W .any base 22 v) (h : DataW.Trod enc Tryz.prog W 0 (fun _ => true) true 22 v d p) :
    ∃ (a : Option Addr) (L : List FT) (c : Nat), v = .slice a L.length c ∧ Filed W a L ∧ ∀ x ∈ L, x.n.size ≤ maxLen := by
  obtain ⟨a0, len, cap, rfl⟩ := okWide_slice Tryz.underlying22 hv
  obtain ⟨fuel, hf⟩ := h
  rcases open_slice Tryz.underlying22 hf with ⟨hcs, _⟩ | ⟨a, len', cap', m, n, D, Pl, hcs, hb, hl, hm, hmm, hx, hi⟩
  · simp [Value.cells] at hcs
    obtain ⟨rfl, rfl, rfl⟩ := hcs
    exact ⟨none, [], 0, rfl, fun i hi => by simp at hi, fun x hx => by cases hx⟩
  · simp [Value.cells] at hcs
    obtain ⟨rfl, rfl, rfl⟩ := hcs
    have hlm : len ≤ m := by rw [hmm]; split <;> omega
    have hall : ∀ i, i < len → ∃ y : FT, W.cell? ((a.add (i * 2)).add 0) = some (.string y.n) ∧ W.cell? ((a.add (i * 2)).add 1) = some (.string y.s) ∧ y.n.size ≤ maxLen := fun i hil => by
      obtain ⟨cs', hc, ht⟩ := hi i (by omega)
      rw [ce26] at hc
      obtain ⟨_, hcl, hat⟩ := World.cells?_some hc
      obtain ⟨y, rfl, hy⟩ := open_ft ht
      exact ⟨y, hat 0 (by decide), hat 1 (by decide), hy⟩
    have hsp : 0 < len → a.spot = none := fun h0 => by
      obtain ⟨x, c0, _⟩ := hall 0 h0
      obtain ⟨b, o, s⟩ := a
      cases s with
      | none => rfl
      | some q =>
        exfalso
        have e0 : ((⟨b, o, some q⟩ : Addr).add (0 * 2)).add 0 = ⟨b, o, some q⟩ := by simp [Addr.add]
        rw [e0] at c0
        have h01 : W.cell? ⟨b, o, some q⟩ = none := by
          unfold World.cell?
          split <;> simp
        rw [h01] at c0; simp at c0
    obtain ⟨f, hf⟩ : ∃ f : Nat → FT, ∀ i, i < len → W.cell? ((a.add (i * 2)).add 0) = some (.string (f i).n) ∧ W.cell? ((a.add (i * 2)).add 1) = some (.string (f i).s) ∧ (f i).n.size ≤ maxLen :=
      ⟨fun i => if h : i < len then Classical.choose (hall i h) else ⟨⟨#[]⟩, ⟨#[]⟩⟩, fun i h => by
        simp only [dif_pos h]
        exact Classical.choose_spec (hall i h)⟩
    have e1 : ((List.range len).map f).length = len := by rw [List.length_map, List.length_range]
    refine ⟨some a, (List.range len).map f, cap, by rw [e1], ?_, fun x hx => ?_⟩
    · intro i hi'
      have hil : i < len := by rw [e1] at hi'; exact hi'
      have hs := hf i hil
      have eg : ((List.range len).map f)[i] = f i := by rw [List.getElem_map, List.getElem_range]
      rw [eg]
      have hsn := hsp (by omega)
      clear hf hall hsp hi hmm
      obtain ⟨b, o, s⟩ := a
      simp only at hsn
      subst hsn
      simp only [add_at, Nat.add_zero] at hs
      exact ⟨b, o, rfl, World.block_lt_of_cell? _ _ hs.1, hs.1, hs.2.1⟩
    · obtain ⟨i, hi, rfl⟩ := List.mem_map.1 hx
      exact (hf i (List.mem_range.1 hi)).2.2
end
end Go.Proofs.YthnnenhpcceckaaGreat
/-
  HOW MANY CALLS; the document's Get; said.
-/
namespace Go.Proofs.YthnnenhpcceckaaGreat
open Go.RowKit
theorem calls_any {w : World} {B D m : Nat} {S : St} (h : Dsk w B D m S) : Calls Tryz.prog 7 #[.pointer (some ⟨D, 0, none⟩)] w fun e w' => e = .returned (.int .i64 S.calls) ∧ w = w' := by
  obtain ⟨L, h⟩ := h
  have c : w.cell? ⟨D, 6, none⟩ = some (.int .i64 S.calls) := h.blk.cell 6
  clear h
  go_enter Tryz.func7, Tryz.ntmps7
  go_wp2_with fail
  go_ret
  exact ⟨rfl, rfl⟩
theorem str_eqd (a b : ByteArray) : (a.toList == b.toList) = decide (a = b) := by
  apply Bool.eq_iff_iff.2
  simp only [beq_iff_eq, decide_eq_true_eq, ByteArray.toList_eq]
  constructor
  · intro h
    cases a; cases b
    simp only [ByteArray.mk.injEq]
    exact Array.toList_inj.1 h
  · rintro rfl; rfl
/-- the document's Get -/
def getO (L : List FT) (s : Nm) : Option ByteArray := (L.find? fun x => decide (x.n = s)).map (·.s)
theorem getO_drop {l : List FT} {k : Nat} {s : Nm} (h : k < l.length) (hne : l[k].n ≠ s) : getO (l.drop (k + 1)) s = getO (l.drop k) s := by
  rw [show l.drop k = l[k] :: l.drop (k + 1) from List.drop_eq_getElem_cons h]
  unfold getO
  rw [List.find?_cons, decide_eq_false hne]
theorem getO_hit {l : List FT} {k : Nat} {s : Nm} (h : k < l.length) (he : l[k].n = s) : getO (l.drop k) s = some l[k].s := by
  rw [show l.drop k = l[k] :: l.drop (k + 1) from List.drop_eq_getElem_cons h]
  unfold getO
  rw [List.find?_cons, decide_eq_true he]
  rfl
def optS (o : Option ByteArray) : ByteArray := o.getD ⟨#[]⟩
theorem ret_get {x y : ByteArray} {a b : Bool} (h : x = y) (k : a = b) : Ending.returned (.tuple #[.string x, .bool a]) = .returned (.tuple #[.string y, .bool b]) := by rw [h, k]
set_option maxHeartbeats 4000000 in
set_option maxRecDepth 100000 in
theorem rget_any (L : List FT) (n : Nat) (hn : L.length = n) (hn4 : n ≤ 100000) (p : Option Addr) (cp : Nat) (s : Nm) (w : World) (T : Filed w p L) : Calls Tryz.prog 25 #[.slice p n cp, .string s] w fun e w' => e = .returned (.tuple #[.string (optS (getO L s)), .bool (getO L s).isSome]) ∧ w = w' := by
  have HN := Lib.hid hn
  have HT := Lib.hid T
  clear T hn
  go_enter Tryz.func25, Tryz.ntmps25
  go_wp2_with fail
  go_loop [6] (fun i => ∃ k : Nat, i = .int .i64 k ∧ k ≤ n ∧ Hid (getO (L.drop k) s = getO L s)) (fun i => n - (intOf i).toNat)
  case atStart => exact ⟨0, rfl, Nat.zero_le _, Lib.hid (by rw [List.drop_zero])⟩
  case round =>
    obtain ⟨k, rfl, hk, hg⟩ := hrel
    by_cases hkn : k < n
    · have hkL : k < L.length := by rw [HN.out]; exact hkn
      obtain ⟨g0, o, rfl, hg0, c0, c1⟩ := HT.out k hkL
      have NX := Lib.hid (fun h => (getO_drop (s := s) hkL h).trans hg.out)
      have HIT := Lib.hid (fun h => (getO_hit (s := s) hkL h).symm.trans hg.out)
      generalize L[k] = x at *
      obtain ⟨xn, xs⟩ := x
      simp only at c0 c1 NX HIT
      clear hkL hg
      by_cases h : xn = s
      · have H := Lib.hid (HIT.out h)
        have hb : (xn.toList == s.toList) = true := by rw [str_eqd]; exact decide_eq_true h
        clear h NX HIT
        go_wp2_with fail
        go_ret2
        exact ⟨ret_get (by rw [← H.out]; rfl) (by rw [← H.out]; rfl), rfl⟩
      · have H := Lib.hid (NX.out h)
        have hb : (xn.toList == s.toList) = false := by rw [str_eqd]; exact decide_eq_false h
        clear h NX HIT
        go_wp2_with fail
        go_round
        case rel => exact ⟨k + 1, by go_num, by omega, H⟩
        case measure => simp [intOf]; omega
    · obtain rfl : k = n := by omega
      have H : Hid (getO L s = none) := Lib.hid (by rw [← hg.out, List.drop_of_length_le (by rw [HN.out]; exact Nat.le_refl _)]; rfl)
      clear hg
      go_wp2_with fail
      go_ret2
      exact ⟨ret_get (by rw [H.out]; rfl) (by rw [H.out]; rfl), rfl⟩
end Go.Proofs.YthnnenhpcceckaaGreat
/-
  THE DOCUMENT's LoadVote AND LoadSnap.
-/
namespace Go.Proofs.YthnnenhpcceckaaGreat
open Go.RowKit
/-- whether a file says just one pack -/
def saidB (s : ByteArray) : Bool := decide ((Ct.unp s).2.2 = 0) && decide ((Ct.unp s).2.1 = ⟨#[]⟩)
theorem empty_eq (r : ByteArray) : (r.toList == []) = decide (r = ⟨#[]⟩) := by
  have : ((⟨#[]⟩ : ByteArray)).toList = [] := by rw [ByteArray.toList_eq]
  have h := str_eqd r ⟨#[]⟩
  rw [this] at h
  exact h
theorem empty_is (r : ByteArray) : r.toList.isEmpty = decide (r = ⟨#[]⟩) := by
  rw [← empty_eq]
  cases r.toList <;> rfl
theorem ret_said {x y : ByteArray} {a b : Bool} (h : x = y) (k : a = b) : Ending.returned (.tuple #[.string x, .bool a]) = .returned (.tuple #[.string y, .bool b]) := by rw [h, k]
theorem said_any (s : ByteArray) (hs : s.size ≤ 281474976710656) (w : World) : Calls Tryz.prog 26 #[.string s] w fun e w' => e = .returned (.tuple #[.string (Ct.unp s).1, .bool (saidB s)]) ∧ Below w.heap.size w w' := by
  have U := Lib.hid (fun W => Ct.runpack_any s hs W)
  unfold saidB
  unfold Ct.unpV at U
  generalize Ct.unp s = x at *
  obtain ⟨b, r, n⟩ := x
  simp only at U ⊢
  have E1 := empty_eq r
  have E2 := empty_is r
  by_cases h0 : n = 0
  · subst h0
    by_cases h1 : r = ⟨#[]⟩
    · have H := Lib.hid h1
      rw [decide_eq_true h1] at E1 E2
      clear h1
      go_enter Tryz.func26, Tryz.ntmps26
      go_wp2_with fail
      refine (U.out _).mono ?_
      rintro e w1 ⟨rfl, b1⟩
      have B1 := Lib.hid b1
      clear b1 U
      go_wp2_with fail
      go_ret2
      exact ⟨ret_said rfl (by rw [decide_eq_true H.out]; rfl), B1.out⟩
    · have H := Lib.hid h1
      rw [decide_eq_false h1] at E1 E2
      clear h1
      go_enter Tryz.func26, Tryz.ntmps26
      go_wp2_with fail
      refine (U.out _).mono ?_
      rintro e w1 ⟨rfl, b1⟩
      have B1 := Lib.hid b1
      clear b1 U
      go_wp2_with fail
      go_ret2
      exact ⟨ret_said rfl (by rw [decide_eq_false H.out]; rfl), B1.out⟩
  · have d0 : (n == 0) = false := by simpa using h0
    have D0 := Lib.hid h0
    clear h0 E1 E2
    go_enter Tryz.func26, Tryz.ntmps26
    go_wp2_with fail
    refine (U.out _).mono ?_
    rintro e w1 ⟨rfl, b1⟩
    have B1 := Lib.hid b1
    clear b1 U
    go_wp2_with fail
    go_ret2
    exact ⟨ret_said rfl (by rw [decide_eq_false D0.out]; rfl), B1.out⟩
/-- the vote that a file says -/
def ldV (o : Option ByteArray) : Int × Int × Int :=
  match o with
  | none => (0, -1, 0)
  | some s => if saidB s then rdV (Ct.unp s).1 else (0, 0, 3)
set_option maxHeartbeats 4000000 in
theorem rlv_any (L : List FT) (n : Nat) (hn : L.length = n) (hn4 : n ≤ 100000) (p : Option Addr) (cp : Nat) (w : World) (T : Filed w p L) (hz : ∀ s, getO L nV = some s → s.size ≤ 281474976710656) :
    Calls Tryz.prog 10 #[.slice p n cp] w fun e w' => e = .returned (.tuple #[voteV (ldV (getO L nV)).1 (ldV (getO L nV)).2.1, .int .i64 (ldV (getO L nV)).2.2]) ∧ Below w.heap.size w w' := by
  have K0 := Blk.new w 36 #[.int .i64 0, .int .i64 0]
  have bA := (Below.refl _ w).alloc (Nat.le_refl _) (.cells #[.int .i64 0, .int .i64 0] 36)
  obtain ⟨w0, hw0⟩ : ∃ w0, w0 = w.alloc (.cells #[.int .i64 0, .int .i64 0] 36) := ⟨_, rfl⟩
  rw [← hw0] at K0 bA
  have T0 := T.below bA
  have G := Lib.hid (rget_any L n hn hn4 p cp nV w0 T0)
  unfold nV at G
  rw [show (⟨#[118, 111, 116, 101]⟩ : Nm) = nV from rfl] at G
  have W0 := Lib.hid hw0
  clear hw0 T0 T hn
  unfold voteV at *
  generalize getO L nV = o at *
  rcases o with _ | s
  · have KH := Lib.hid K0
    have BH := Lib.hid bA
    generalize hy : w.heap.size = Y at *
    have c0 : w0.cell? ⟨Y, 0, none⟩ = some (.int .i64 0) := K0.cell 0
    have c1 : w0.cell? ⟨Y, 1, none⟩ = some (.int .i64 0) := K0.cell 1
    have f0 : w0.frozen? ⟨Y, 0, none⟩ = false := K0.free 0
    have f1 : w0.frozen? ⟨Y, 1, none⟩ = false := K0.free 1
    clear K0 bA
    go_enter Tryz.func10, Tryz.ntmps10
    go_wp2_with fail
    rw [← W0.out]
    refine G.out.mono ?_
    rintro e w1 ⟨rfl, rfl⟩
    go_wp2_with fail
    obtain ⟨z0, z1, B5, _⟩ := end_cells (.int .i64 0) (.int .i64 (-1)) KH.out BH.out
    clear c0 c1 f0 f1
    generalize (World.setCell (World.setCell w0 ⟨Y, 0, none⟩ (.int .i64 0)) ⟨Y, 1, none⟩ (.int .i64 (-1))) = w9 at *
    refine bodyPost_ret (by simp [results, Tryz.results10, go_sem, z0, z1]; try rfl) rfl ?_
    exact ⟨rfl, B5⟩
  · have hs := hz s rfl
    have SD := Lib.hid (fun W => said_any s hs W)
    have RV := Lib.hid (fun W => rreadVote_any (Ct.unp s).1 (Nat.le_trans (Ct.unp_le s).1 hs) W)
    simp only [ldV]
    clear hz hs
    unfold voteV at *
    generalize (Ct.unp s).1 = b at *
    have KH := Lib.hid K0
    have BH := Lib.hid bA
    clear K0 bA
    rcases hsd : saidB s with _ | _
    · rw [hsd] at SD
      clear hsd RV
      simp only [optS, Option.getD_some, Option.isSome_some, Bool.false_eq_true, if_false] at G ⊢
      generalize hy : w.heap.size = Y at *
      go_enter Tryz.func10, Tryz.ntmps10
      go_wp2_with fail
      rw [← W0.out]
      refine G.out.mono ?_
      rintro e w1 ⟨rfl, rfl⟩
      go_wp2_with fail
      refine (SD.out _).mono ?_
      rintro e w2 ⟨rfl, b2⟩
      have K2 := Lib.hid (KH.out.below b2 KH.out.lt)
      have B2 := Lib.hid (BH.out.trans (b2.mono (Nat.le_of_lt KH.out.lt)))
      clear b2 KH BH SD G W0
      have c0 : w2.cell? ⟨Y, 0, none⟩ = some (.int .i64 0) := K2.out.cell 0
      have c1 : w2.cell? ⟨Y, 1, none⟩ = some (.int .i64 0) := K2.out.cell 1
      have f0 : w2.frozen? ⟨Y, 0, none⟩ = false := K2.out.free 0
      have f1 : w2.frozen? ⟨Y, 1, none⟩ = false := K2.out.free 1
      go_wp2_with fail
      obtain ⟨z0, z1, B5, _⟩ := end_cells (.int .i64 0) (.int .i64 0) K2.out B2.out
      clear c0 c1 f0 f1
      generalize (World.setCell (World.setCell w2 ⟨Y, 0, none⟩ (.int .i64 0)) ⟨Y, 1, none⟩ (.int .i64 0)) = w9 at *
      refine bodyPost_ret (by simp [results, Tryz.results10, go_sem, z0, z1]; try rfl) rfl ?_
      exact ⟨rfl, B5⟩
    · rw [hsd] at SD
      clear hsd
      simp only [optS, Option.getD_some, Option.isSome_some, if_true] at G ⊢
      generalize rdV b = x at *
      obtain ⟨xa, xb, xn⟩ := x
      simp only at RV ⊢
      generalize hy : w.heap.size = Y at *
      go_enter Tryz.func10, Tryz.ntmps10
      go_wp2_with fail
      rw [← W0.out]
      refine G.out.mono ?_
      rintro e w1 ⟨rfl, rfl⟩
      go_wp2_with fail
      refine (SD.out _).mono ?_
      rintro e w2 ⟨rfl, b2⟩
      have K2 := Lib.hid (KH.out.below b2 KH.out.lt)
      have B2 := Lib.hid (BH.out.trans (b2.mono (Nat.le_of_lt KH.out.lt)))
      clear b2 KH BH SD G W0
      go_wp2_with fail
      refine (RV.out _).mono ?_
      rintro e w3 ⟨rfl, b3⟩
      have K3 := Lib.hid (K2.out.below b3 K2.out.lt)
      have B3 := Lib.hid (B2.out.trans (b3.mono (Nat.le_of_lt K2.out.lt)))
      clear b3 K2 B2 RV
      have c0 : w3.cell? ⟨Y, 0, none⟩ = some (.int .i64 0) := K3.out.cell 0
      have c1 : w3.cell? ⟨Y, 1, none⟩ = some (.int .i64 0) := K3.out.cell 1
      have f0 : w3.frozen? ⟨Y, 0, none⟩ = false := K3.out.free 0
      have f1 : w3.frozen? ⟨Y, 1, none⟩ = false := K3.out.free 1
      go_wp2_with fail
      obtain ⟨z0, z1, B5, _⟩ := end_cells (.int .i64 xa) (.int .i64 xb) K3.out B3.out
      clear c0 c1 f0 f1
      generalize (World.setCell (World.setCell w3 ⟨Y, 0, none⟩ (.int .i64 xa)) ⟨Y, 1, none⟩ (.int .i64 xb)) = w9 at *
      refine bodyPost_ret (by simp [results, Tryz.results10, go_sem, z0, z1]; try rfl) rfl ?_
      exact ⟨rfl, B5⟩
end Go.Proofs.YthnnenhpcceckaaGreat
/-
  WHAT LoadVote AND LoadSnap ANSWER, whatever the files say; the files that there are.
-/
namespace Go.Proofs.YthnnenhpcceckaaGreat
open Go.RowKit
theorem nameS : nameB nS = true := by decide +kernel
theorem readV_is {S : St} {f : Nm} (hd : S.down = false) (hn : nameB f = true) : readV S f = (match get S.now f with | some l => (str l, 0) | none => (str [], 4)) := by
  unfold readV
  rw [hd, hn]
  rfl
theorem said_yes {s b r : ByteArray} {n : Int} (hu : Ct.unp s = (b, r, n)) (h : saidB s = true) : n = 0 ∧ r = ⟨#[]⟩ := by
  unfold saidB at h
  rw [hu] at h
  simp only [Bool.and_eq_true, decide_eq_true_eq] at h
  exact h
theorem said_no {s b r : ByteArray} {n : Int} (hu : Ct.unp s = (b, r, n)) (h : saidB s = false) : n ≠ 0 ∨ r ≠ ⟨#[]⟩ := by
  unfold saidB at h
  rw [hu] at h
  by_cases h0 : n = 0
  · refine .inr fun h1 => ?_
    simp only at h
    rw [decide_eq_true h0, decide_eq_true h1] at h
    cases h
  · exact .inl h0
section
variable {w : World} {B D mm : Nat} {S : St}
theorem ldV_none : ldV none = (0, -1, 0) := rfl
theorem ldV_no {s : ByteArray} (h : saidB s = false) : ldV (some s) = (0, 0, 3) := by
  show (if saidB s = true then _ else _) = _
  rw [h, if_neg (by decide)]
theorem ldV_yes {s b : ByteArray} (h : saidB s = true) (hb : (Ct.unp s).1 = b) : ldV (some s) = rdV b := by
  show (if saidB s = true then rdV (Ct.unp s).1 else _) = _
  rw [h, if_pos rfl, hb]
def LvR (w : World) (x : Int × Int × Int) (e : Ending) (w' : World) : Prop := e = .returned (.tuple #[voteV x.1 x.2.1, .int .i64 x.2.2]) ∧ Below w.heap.size w w'
theorem lvr {p : Option Addr} {w : World} {t f n t' : Int} {x : Int × Int × Int} (h : Calls Tryz.prog 9 #[.pointer p] w fun e w' => e = .returned (.tuple #[voteV t t', .int .i64 n]) ∧ Below w.heap.size w w') (ht : t' = f) (hx : x = (t, f, n)) : Calls Tryz.prog 9 #[.pointer p] w (LvR w x) := by
  subst hx ht
  exact h
theorem lv_file {p : Option Addr} {s : ByteArray} (hs : s.size ≤ 281474976710656) (hR : ∀ W, Below w.heap.size w W → ∀ W', Below W.heap.size W W' → Calls Tryz.prog 22 #[.pointer p, .string nV] W' fun e w' => e = .returned (.tuple #[.string s, .int .i64 0]) ∧ W' = w') :
    Calls Tryz.prog 9 #[.pointer p] w (LvR w (ldV (some s))) := by
  have hle := (Ct.unp_le s).1
  obtain ⟨b, r, n, hu⟩ : ∃ b r n, Ct.unp s = (b, r, n) := ⟨_, _, _, rfl⟩
  have hb : b.size ≤ 281474976710656 := by rw [hu] at hle; exact Nat.le_trans hle hs
  rcases hsd : saidB s with _ | _
  · exact lvr (loadVote_of (t := 0) (f := 0) (n := 3) (b := false) fun W bW => load_form (hR W bW) hs hu (said_no hu hsd)) (if_neg (fun h => by have := h.1; omega)) (ldV_no hsd)
  · obtain ⟨h1, h2⟩ := said_yes hu hsd
    subst h1 h2
    have e := ldV_yes hsd (show (Ct.unp s).1 = b by rw [hu])
    by_cases h0 : (rdV b).2.2 = 0
    · obtain ⟨t, f, k, hv⟩ : ∃ t f k, rdV b = (t, f, k) := ⟨_, _, _, rfl⟩
      rw [hv] at h0
      have h0 : k = 0 := h0
      subst h0
      exact lvr (loadVote_of (t := t) (f := f) (n := 0) (b := true) fun W bW => load_ok (hR W bW) hs hb hu hv) (if_neg (fun h => by cases h.2)) (e.trans hv)
    · have hv := rdV_no h0
      exact lvr (loadVote_of (t := 0) (f := 0) (n := 3) (b := false) fun W bW => load_bad (hR W bW) hs hb hu hv) (if_neg (fun h => by have := h.1; omega)) (e.trans hv)
theorem lvg (d : Dsk w B D mm S) (hd : S.down = false) (hz : ∀ l, get S.now nV = some l → (str l).size ≤ 281474976710656) :
    Calls Tryz.prog 9 #[.pointer (some ⟨D, 0, none⟩)] w (LvR w (ldV ((get S.now nV).map str))) := by
  have hr := readV_is hd nameV
  rcases hg : get S.now nV with _ | l
  · rw [hg] at hr
    rw [Option.map_none]
    exact lvr (loadVote_of (t := 0) (f := 0) (n := 0) (b := false) fun W bW => load_err (n := 4) (x := str []) (fun W' bW' => by
      have := readd ((d.below bW).below bW') nV (by decide)
      rw [hr] at this
      exact this) (by decide)) (if_pos ⟨rfl, rfl⟩) ldV_none
  · rw [hg] at hr
    rw [Option.map_some]
    refine lv_file (hz l hg) fun W bW W' bW' => ?_
    have := readd ((d.below bW).below bW') nV (by decide)
    rw [hr] at this
    exact this
/-- the snapshot that a file says -/
def ldS (o : Option ByteArray) : Int × Int × Int × ByteArray × Bool × Int :=
  match o with
  | none => (0, 0, 0, ⟨#[]⟩, false, 0)
  | some s => if saidB s then ((rsV (Ct.unp s).1).1, (rsV (Ct.unp s).1).2.1, (rsV (Ct.unp s).1).2.2.1, (rsV (Ct.unp s).1).2.2.2.1, decide ((rsV (Ct.unp s).1).2.2.2.2 = 0), (rsV (Ct.unp s).1).2.2.2.2) else (0, 0, 0, ⟨#[]⟩, false, 3)
def ldSV (x : Int × Int × Int × ByteArray × Bool × Int) : Value := .tuple #[snapV x.1 x.2.1 x.2.2.1 x.2.2.2.1, .bool x.2.2.2.2.1, .int .i64 x.2.2.2.2.2]
theorem ldS_no {s : ByteArray} (h : saidB s = false) : ldS (some s) = (0, 0, 0, ⟨#[]⟩, false, 3) := by
  show (if saidB s = true then _ else _) = _
  rw [h, if_neg (by decide)]
theorem ldS_yes {s b : ByteArray} (h : saidB s = true) (hb : (Ct.unp s).1 = b) : ldS (some s) = ((rsV b).1, (rsV b).2.1, (rsV b).2.2.1, (rsV b).2.2.2.1, decide ((rsV b).2.2.2.2 = 0), (rsV b).2.2.2.2) := by
  subst hb
  show (if saidB s = true then _ else _) = _
  rw [h, if_pos rfl]
def LsR (w : World) (x : Int × Int × Int × ByteArray × Bool × Int) (e : Ending) (w' : World) : Prop := e = .returned (ldSV x) ∧ Below w.heap.size w w'
theorem lsr {p : Option Addr} {w : World} {i t m n : Int} {s : ByteArray} {b : Bool} {x : Int × Int × Int × ByteArray × Bool × Int} (h : Calls Tryz.prog 11 #[.pointer p] w fun e w' => e = .returned (.tuple #[snapV i t m s, .bool b, .int .i64 n]) ∧ Below w.heap.size w w') (hx : x = (i, t, m, s, b, n)) : Calls Tryz.prog 11 #[.pointer p] w (LsR w x) := by
  subst hx
  exact h
theorem ls_file {p : Option Addr} {s : ByteArray} (hs : s.size ≤ 281474976710656) (hR : ∀ W, Below w.heap.size w W → ∀ W', Below W.heap.size W W' → Calls Tryz.prog 22 #[.pointer p, .string nS] W' fun e w' => e = .returned (.tuple #[.string s, .int .i64 0]) ∧ W' = w') :
    Calls Tryz.prog 11 #[.pointer p] w (LsR w (ldS (some s))) := by
  have hle := (Ct.unp_le s).1
  obtain ⟨b, r, n, hu⟩ : ∃ b r n, Ct.unp s = (b, r, n) := ⟨_, _, _, rfl⟩
  have hb : b.size ≤ 281474976710656 := by rw [hu] at hle; exact Nat.le_trans hle hs
  rcases hsd : saidB s with _ | _
  · exact lsr (loadSnap_gen fun W bW => loadS_form (hR W bW) hs hu (said_no hu hsd)) (ldS_no hsd)
  · obtain ⟨h1, h2⟩ := said_yes hu hsd
    subst h1 h2
    have e := ldS_yes hsd (show (Ct.unp s).1 = b by rw [hu])
    by_cases h0 : (rsV b).2.2.2.2 = 0
    · obtain ⟨i, t, m, x, k, hv⟩ : ∃ i t m x k, rsV b = (i, t, m, x, k) := ⟨_, _, _, _, _, rfl⟩
      rw [hv] at h0 e
      have h0 : k = 0 := h0
      subst h0
      exact lsr (loadSnap_gen fun W bW => loadS_ok (hR W bW) hs hb hu hv) (e.trans (by simp only [decide_true]))
    · have hv := rsV_no h0
      rw [hv] at e
      exact lsr (loadSnap_gen fun W bW => loadS_bad (hR W bW) hs hb hu hv) (e.trans (by simp only; rw [decide_eq_false (by omega)]))
theorem lsg (d : Dsk w B D mm S) (hd : S.down = false) (hz : ∀ l, get S.now nS = some l → (str l).size ≤ 281474976710656) :
    Calls Tryz.prog 11 #[.pointer (some ⟨D, 0, none⟩)] w (LsR w (ldS ((get S.now nS).map str))) := by
  have hr := readV_is hd nameS
  rcases hg : get S.now nS with _ | l
  · rw [hg] at hr
    rw [Option.map_none]
    exact lsr (loadSnap_gen fun W bW => loadS_err (n := 4) (x := str []) (fun W' bW' => by
      have := readd ((d.below bW).below bW') nS (by decide)
      rw [hr] at this
      exact this) (by decide)) rfl
  · rw [hg] at hr
    rw [Option.map_some]
    refine ls_file (hz l hg) fun W bW W' bW' => ?_
    have := readd ((d.below bW).below bW') nS (by decide)
    rw [hr] at this
    exact this
end
open Classical in
theorem find_map (l : List Nm) (g : Nm → ByteArray) (f : Nm) : getO (l.map fun s => ⟨s, g s⟩) f = if f ∈ l then some (g f) else none := by
  unfold getO
  induction l with
  | nil => rw [if_neg (by simp)]; rfl
  | cons a l ih =>
    rw [List.map_cons, List.find?_cons]
    by_cases h : a = f
    · subst h
      simp
    · rw [decide_eq_false h]
      simp only
      rw [ih]
      by_cases h2 : f ∈ l
      · rw [if_pos h2, if_pos (List.mem_cons_of_mem _ h2)]
      · rw [if_neg h2, if_neg (fun hm => by rcases List.mem_cons.1 hm with e | e; exact h e.symm; exact h2 e)]
theorem mem_names {fs : Fm} {f : Nm} : f ∈ namesOf fs ↔ (get fs f).isSome = true := by
  unfold namesOf
  rw [List.mem_map]
  constructor
  · rintro ⟨l, hl, rfl⟩
    rw [List.mem_mergeSort] at hl
    exact mem_keys.1 hl
  · intro h
    refine ⟨bl f, ?_, nm_bl f⟩
    rw [List.mem_mergeSort]
    refine mem_keys.2 ?_
    rw [nm_bl]; exact h
open Classical in
theorem files_get {S : St} (hd : S.down = false) (hn : ∀ f, (get S.now f).isSome = true → nameB f = true) (f : Nm) : getO (filesOf S) f = (get S.now f).map str := by
  unfold filesOf
  rw [hd]
  simp only [Bool.false_eq_true, if_false]
  rw [find_map]
  by_cases h : f ∈ namesOf S.now
  · have h1 := mem_names.1 h
    rw [if_pos h, readV_is hd (hn f h1)]
    rcases hg : get S.now f with _ | l
    · rw [hg] at h1; cases h1
    · rfl
  · rw [if_neg h]
    rcases hg : get S.now f with _ | l
    · rfl
    · exfalso; exact h (mem_names.2 (by rw [hg]; rfl))
end Go.Proofs.YthnnenhpcceckaaGreat
/-
  THE DOCUMENT's LoadSnap.
-/
namespace Go.Proofs.YthnnenhpcceckaaGreat
open Go.RowKit
set_option maxHeartbeats 4000000 in
theorem rls_any (L : List FT) (n : Nat) (hn : L.length = n) (hn4 : n ≤ 100000) (p : Option Addr) (cp : Nat) (w : World) (T : Filed w p L) (hz : ∀ s, getO L nS = some s → s.size ≤ 281474976710656) :
    Calls Tryz.prog 12 #[.slice p n cp] w fun e w' => e = .returned (ldSV (ldS (getO L nS))) ∧ Below w.heap.size w w' := by
  have K0 := Blk.new w 43 #[.int .i64 0, .int .i64 0, .int .i64 0, .string ⟨#[]⟩]
  have bA := (Below.refl _ w).alloc (Nat.le_refl _) (.cells #[.int .i64 0, .int .i64 0, .int .i64 0, .string ⟨#[]⟩] 43)
  obtain ⟨w0, hw0⟩ : ∃ w0, w0 = w.alloc (.cells #[.int .i64 0, .int .i64 0, .int .i64 0, .string ⟨#[]⟩] 43) := ⟨_, rfl⟩
  rw [← hw0] at K0 bA
  have T0 := T.below bA
  have G := Lib.hid (rget_any L n hn hn4 p cp nS w0 T0)
  unfold nS at G
  rw [show (⟨#[115, 110, 97, 112]⟩ : Nm) = nS from rfl] at G
  have W0 := Lib.hid hw0
  clear hw0 T0 T hn
  generalize getO L nS = o at *
  rcases o with _ | s
  · simp only [ldS, ldSV]
    unfold snapV at *
    have KH := Lib.hid K0
    have BH := Lib.hid bA
    generalize hy : w.heap.size = Y at *
    have c0 : w0.cell? ⟨Y, 0, none⟩ = some (.int .i64 0) := K0.cell 0
    have c1 : w0.cell? ⟨Y, 1, none⟩ = some (.int .i64 0) := K0.cell 1
    have c2 : w0.cell? ⟨Y, 2, none⟩ = some (.int .i64 0) := K0.cell 2
    have c3 : w0.cell? ⟨Y, 3, none⟩ = some (.string ⟨#[]⟩) := K0.cell 3
    have f0 : w0.frozen? ⟨Y, 0, none⟩ = false := K0.free 0
    have f1 : w0.frozen? ⟨Y, 1, none⟩ = false := K0.free 1
    have f2 : w0.frozen? ⟨Y, 2, none⟩ = false := K0.free 2
    have f3 : w0.frozen? ⟨Y, 3, none⟩ = false := K0.free 3
    clear K0 bA
    go_enter Tryz.func12, Tryz.ntmps12
    go_wp2_with fail
    rw [← W0.out]
    refine G.out.mono ?_
    rintro e w1 ⟨rfl, rfl⟩
    go_wp2_with fail
    have K6 := (set4_all (.int .i64 0) (.int .i64 0) (.int .i64 0) (.string ⟨#[]⟩) KH.out).1
    have B6 := set4_below (.int .i64 0) (.int .i64 0) (.int .i64 0) (.string ⟨#[]⟩) KH.out BH.out
    unfold set4 at K6 B6
    clear c0 c1 c2 c3 f0 f1 f2 f3
    generalize (World.setCell (World.setCell (World.setCell (World.setCell w0 ⟨Y, 0, none⟩ (.int .i64 0)) ⟨Y, 1, none⟩ (.int .i64 0)) ⟨Y, 2, none⟩ (.int .i64 0)) ⟨Y, 3, none⟩ (.string ⟨#[]⟩)) = w9 at *
    have z0 : w9.cell? ⟨Y, 0, none⟩ = some (.int .i64 0) := K6.cell 0
    have z1 : w9.cell? ⟨Y, 1, none⟩ = some (.int .i64 0) := K6.cell 1
    have z2 : w9.cell? ⟨Y, 2, none⟩ = some (.int .i64 0) := K6.cell 2
    have z3 : w9.cell? ⟨Y, 3, none⟩ = some (.string ⟨#[]⟩) := K6.cell 3
    refine bodyPost_ret (by simp [results, Tryz.results12, go_sem, z0, z1, z2, z3]; try rfl) rfl ?_
    exact ⟨rfl, B6⟩
  · have hs := hz s rfl
    have SD := Lib.hid (fun W => said_any s hs W)
    have RV := Lib.hid (fun W => rreadSnap_any (Ct.unp s).1 (Nat.le_trans (Ct.unp_le s).1 hs) W)
    simp only [ldS]
    clear hz hs
    generalize (Ct.unp s).1 = b at *
    have KH := Lib.hid K0
    have BH := Lib.hid bA
    clear K0 bA
    rcases hsd : saidB s with _ | _
    · rw [hsd] at SD
      clear hsd RV
      simp only [ldSV, optS, Option.getD_some, Option.isSome_some, Bool.false_eq_true, if_false] at G ⊢
      unfold snapV at *
      generalize hy : w.heap.size = Y at *
      go_enter Tryz.func12, Tryz.ntmps12
      go_wp2_with fail
      rw [← W0.out]
      refine G.out.mono ?_
      rintro e w1 ⟨rfl, rfl⟩
      go_wp2_with fail
      refine (SD.out _).mono ?_
      rintro e w2 ⟨rfl, b2⟩
      have K2 := Lib.hid (KH.out.below b2 KH.out.lt)
      have B2 := Lib.hid (BH.out.trans (b2.mono (Nat.le_of_lt KH.out.lt)))
      clear b2 KH BH SD G W0
      have c0 : w2.cell? ⟨Y, 0, none⟩ = some (.int .i64 0) := K2.out.cell 0
      have c1 : w2.cell? ⟨Y, 1, none⟩ = some (.int .i64 0) := K2.out.cell 1
      have c2 : w2.cell? ⟨Y, 2, none⟩ = some (.int .i64 0) := K2.out.cell 2
      have c3 : w2.cell? ⟨Y, 3, none⟩ = some (.string ⟨#[]⟩) := K2.out.cell 3
      have f0 : w2.frozen? ⟨Y, 0, none⟩ = false := K2.out.free 0
      have f1 : w2.frozen? ⟨Y, 1, none⟩ = false := K2.out.free 1
      have f2 : w2.frozen? ⟨Y, 2, none⟩ = false := K2.out.free 2
      have f3 : w2.frozen? ⟨Y, 3, none⟩ = false := K2.out.free 3
      go_wp2_with fail
      have K6 := (set4_all (.int .i64 0) (.int .i64 0) (.int .i64 0) (.string ⟨#[]⟩) K2.out).1
      have B6 := set4_below (.int .i64 0) (.int .i64 0) (.int .i64 0) (.string ⟨#[]⟩) K2.out B2.out
      unfold set4 at K6 B6
      clear c0 c1 c2 c3 f0 f1 f2 f3
      generalize (World.setCell (World.setCell (World.setCell (World.setCell w2 ⟨Y, 0, none⟩ (.int .i64 0)) ⟨Y, 1, none⟩ (.int .i64 0)) ⟨Y, 2, none⟩ (.int .i64 0)) ⟨Y, 3, none⟩ (.string ⟨#[]⟩)) = w9 at *
      have z0 : w9.cell? ⟨Y, 0, none⟩ = some (.int .i64 0) := K6.cell 0
      have z1 : w9.cell? ⟨Y, 1, none⟩ = some (.int .i64 0) := K6.cell 1
      have z2 : w9.cell? ⟨Y, 2, none⟩ = some (.int .i64 0) := K6.cell 2
      have z3 : w9.cell? ⟨Y, 3, none⟩ = some (.string ⟨#[]⟩) := K6.cell 3
      refine bodyPost_ret (by simp [results, Tryz.results12, go_sem, z0, z1, z2, z3]; try rfl) rfl ?_
      exact ⟨rfl, B6⟩
    · rw [hsd] at SD
      clear hsd
      simp only [ldSV, optS, Option.getD_some, Option.isSome_some, if_true] at G ⊢
      generalize rsV b = x at *
      obtain ⟨xi, xt, xm, xs, xn⟩ := x
      simp only at RV ⊢
      unfold snapV at *
      have DN : Hid (Value.bool (decide (xn = 0)) = .bool (xn == 0)) := Lib.hid (by by_cases h : xn = 0 <;> simp [h])
      generalize hy : w.heap.size = Y at *
      go_enter Tryz.func12, Tryz.ntmps12
      go_wp2_with fail
      rw [← W0.out]
      refine G.out.mono ?_
      rintro e w1 ⟨rfl, rfl⟩
      go_wp2_with fail
      refine (SD.out _).mono ?_
      rintro e w2 ⟨rfl, b2⟩
      have K2 := Lib.hid (KH.out.below b2 KH.out.lt)
      have B2 := Lib.hid (BH.out.trans (b2.mono (Nat.le_of_lt KH.out.lt)))
      clear b2 KH BH SD G W0
      go_wp2_with fail
      refine (RV.out _).mono ?_
      rintro e w3 ⟨rfl, b3⟩
      have K3 := Lib.hid (K2.out.below b3 K2.out.lt)
      have B3 := Lib.hid (B2.out.trans (b3.mono (Nat.le_of_lt K2.out.lt)))
      clear b3 K2 B2 RV
      have c0 : w3.cell? ⟨Y, 0, none⟩ = some (.int .i64 0) := K3.out.cell 0
      have c1 : w3.cell? ⟨Y, 1, none⟩ = some (.int .i64 0) := K3.out.cell 1
      have c2 : w3.cell? ⟨Y, 2, none⟩ = some (.int .i64 0) := K3.out.cell 2
      have c3 : w3.cell? ⟨Y, 3, none⟩ = some (.string ⟨#[]⟩) := K3.out.cell 3
      have f0 : w3.frozen? ⟨Y, 0, none⟩ = false := K3.out.free 0
      have f1 : w3.frozen? ⟨Y, 1, none⟩ = false := K3.out.free 1
      have f2 : w3.frozen? ⟨Y, 2, none⟩ = false := K3.out.free 2
      have f3 : w3.frozen? ⟨Y, 3, none⟩ = false := K3.out.free 3
      have hlt : Y < w3.heap.size := K3.out.lt
      go_wp2_with fail
      have K6 := (set4_all (.int .i64 xi) (.int .i64 xt) (.int .i64 xm) (.string xs) K3.out).1
      have B6 := set4_below (.int .i64 xi) (.int .i64 xt) (.int .i64 xm) (.string xs) K3.out B3.out
      unfold set4 at K6 B6
      clear c0 c1 c2 c3 f0 f1 f2 f3 hlt
      generalize (World.setCell (World.setCell (World.setCell (World.setCell w3 ⟨Y, 0, none⟩ (.int .i64 xi)) ⟨Y, 1, none⟩ (.int .i64 xt)) ⟨Y, 2, none⟩ (.int .i64 xm)) ⟨Y, 3, none⟩ (.string xs)) = w8 at *
      have bD := (Below.refl w8.heap.size w8).alloc (Nat.le_refl _) (.cells #[.int .i64 xi, .int .i64 xt, .int .i64 xm, .string xs] 43)
      have K7 := K6.below bD K6.lt
      have B7 := B6.trans (bD.mono (Nat.le_of_lt K6.lt))
      generalize w8.alloc (.cells #[.int .i64 xi, .int .i64 xt, .int .i64 xm, .string xs] 43) = w9 at *
      have z0 : w9.cell? ⟨Y, 0, none⟩ = some (.int .i64 xi) := K7.cell 0
      have z1 : w9.cell? ⟨Y, 1, none⟩ = some (.int .i64 xt) := K7.cell 1
      have z2 : w9.cell? ⟨Y, 2, none⟩ = some (.int .i64 xm) := K7.cell 2
      have z3 : w9.cell? ⟨Y, 3, none⟩ = some (.string xs) := K7.cell 3
      rw [show (Value.bool (decide (xn = 0))) = .bool (xn == 0) from DN.out]
      refine bodyPost_ret (by simp [results, Tryz.results12, go_sem, z0, z1, z2, z3]; try rfl) rfl ?_
      exact ⟨rfl, B7⟩
end Go.Proofs.YthnnenhpcceckaaGreat
/-
  FOR THE LAW OF ShelfLoads: files are put on a new disk.
-/
namespace Go.Proofs.YthnnenhpcceckaaGreat
open Go.RowKit
/-- behind so many files -/
structure Lk (W : World) (B D k : Nat) (S : St) : Prop where
  d : ∃ m, Dsk W B D m S ∧ m ≤ 100 * k
  ok : Ok S
  up : S.down = false
  ht : S.trip = 0
  hr : S.room < 0
  few : S.row.length ≤ k
  nm : ∀ f, (get S.now f).isSome = true → nameB f = true
  sm : ∀ f l, get S.now f = some l → l.length ≤ 6000
def Lj (w W : World) (D k : Nat) : Prop := (∃ S, Lk W w.heap.size D k S) ∧ Below w.heap.size w W
theorem lj_new {w W : World} {D : Nat} (d : Dsk W w.heap.size D 0 st0) (b : Below w.heap.size w W) : Lj w W D 0 :=
  ⟨⟨st0, ⟨0, d, by omega⟩, ok0, rfl, rfl, by decide, Nat.le_refl _, fun f h => (by cases h), fun f l h => (by cases h)⟩, b⟩
theorem lj_put {w W : World} {D k : Nat} (h : Lj w W D k) (hk : k ≤ 8) (f s : Nm) (hf : f.size ≤ 9223372036854775807) (hs : s.size ≤ 6000) :
    Calls Tryz.prog 5 #[.pointer (some ⟨D, 0, none⟩), .string f, .int .i64 0, .string s] W fun e w' => (∃ n : Int, e = .returned (.int .i64 n)) ∧ Lj w w' D (k + 1) := by
  obtain ⟨⟨S, ⟨m, d, hm⟩, ok, up, ht, hr, few, nm, sm⟩, b⟩ := h
  have hgl : (gl S.now f).length ≤ 6000 := by
    unfold gl
    rcases hg : get S.now f with _ | l
    · exact Nat.zero_le _
    · exact sm f l hg
  by_cases hn : nameB f = true
  · refine (putd (n := 0) f s d ok (by omega) up ht hr hn (Nat.zero_le _) (by omega)).mono ?_
    rintro e w' ⟨rfl, d2, ok2, b2⟩
    refine ⟨⟨0, rfl⟩, ⟨_, ⟨_, d2, by omega⟩, ok2, up, ht, hr, ?_, ?_, ?_⟩, b.trans b2⟩
    · simp only [List.length_append, List.length_cons, List.length_nil]; omega
    · intro g hg
      have e : (Chg.put f 0 s).doF S.now = put S.now f (splice (gl S.now f) 0 (bl s)) := rfl
      simp only at hg
      rw [e, get_put] at hg
      by_cases hgf : g = f
      · rw [hgf]; exact hn
      · rw [if_neg hgf] at hg; exact nm g hg
    · intro g l hg
      have e : (Chg.put f 0 s).doF S.now = put S.now f (splice (gl S.now f) 0 (bl s)) := rfl
      simp only at hg
      rw [e, get_put] at hg
      by_cases hgf : g = f
      · rw [if_pos hgf] at hg
        injection hg with hg
        rw [← hg, splice_len (Nat.zero_le _), bl_len]
        omega
      · rw [if_neg hgf] at hg; exact sm g l hg
  · have hn : nameB f = false := by simpa using hn
    obtain ⟨L, dl⟩ := d
    refine (put_bad f s 0 dl up hf ⟨by omega, by omega⟩ (.inl hn)).mono ?_
    rintro e w' ⟨rfl, rfl⟩
    exact ⟨⟨1, rfl⟩, ⟨S, ⟨m, ⟨L, dl⟩, by omega⟩, ok, up, ht, hr, by omega, nm, sm⟩, b⟩
/-- what there is behind the Sync -/
structure Ls (w W : World) (D : Nat) (S : St) : Prop where
  d : ∃ m, Dsk W w.heap.size D m S
  up : S.down = false
  nm : ∀ f, (get S.now f).isSome = true → nameB f = true
  sm : ∀ f l, get S.now f = some l → l.length ≤ 6000
  b : Below w.heap.size w W
theorem Ls.below {w W W' : World} {D : Nat} {S : St} (h : Ls w W D S) (hb : Below W.heap.size W W') : Ls w W' D S := by
  obtain ⟨⟨m, d⟩, up, nm, sm, b⟩ := h
  exact ⟨⟨m, d.below hb⟩, up, nm, sm, b.trans (hb.mono b.size)⟩
theorem lj_sync {w W : World} {D k : Nat} (h : Lj w W D k) (hk : k ≤ 8) :
    Calls Tryz.prog 6 #[.pointer (some ⟨D, 0, none⟩)] W fun e w' => e = .returned (.int .i64 0) ∧ ∃ S, Ls w w' D S := by
  obtain ⟨⟨S, ⟨m, d, hm⟩, ok, up, ht, hr, few, nm, sm⟩, b⟩ := h
  refine (syncd d ok (by omega) up ht).mono ?_
  rintro e w' ⟨rfl, d2, _, b2⟩
  exact ⟨rfl, _, ⟨_, d2⟩, up, nm, sm, b.trans b2⟩
theorem str_size (l : List UInt8) : (str l).size = l.length := by unfold str; simp [ByteArray.size]
section
variable {w W : World} {D : Nat} {S : St}
theorem ls_size (h : Ls w W D S) (f : Nm) (l : List UInt8) (hg : get S.now f = some l) : (str l).size ≤ 281474976710656 := by
  rw [str_size]; have := h.sm f l hg; omega
theorem ls_files (h : Ls w W D S) : Calls Tryz.prog 8 #[.pointer (some ⟨D, 0, none⟩)] W (Filesd W (filesOf S)) := by
  obtain ⟨⟨m, L, d⟩, up, nm, sm, b⟩ := h
  exact files_any d (fun s hs => (nameB_size (nm s (mem_names.1 hs))).2)
theorem ls_few (h : Ls w W D S) : (filesOf S).length ≤ 100000 := by
  obtain ⟨⟨m, L, d⟩, up, nm, sm, b⟩ := h
  unfold filesOf
  rw [up]
  simp only [Bool.false_eq_true, if_false]
  rw [List.length_map, namesOf_len]
  have h1 := d.g2.few
  have h2 := d.low
  omega
theorem ls_vote (h : Ls w W D S) : Calls Tryz.prog 9 #[.pointer (some ⟨D, 0, none⟩)] W (LvR W (ldV ((get S.now nV).map str))) := by
  obtain ⟨m, d⟩ := h.d
  exact lvg d h.up (ls_size h nV)
theorem ls_snap (h : Ls w W D S) : Calls Tryz.prog 11 #[.pointer (some ⟨D, 0, none⟩)] W (LsR W (ldS ((get S.now nS).map str))) := by
  obtain ⟨m, d⟩ := h.d
  exact lsg d h.up (ls_size h nS)
theorem ls_rvote (h : Ls w W D S) {n cp : Nat} {p : Option Addr} (hn : (filesOf S).length = n) (T : Filed W p (filesOf S)) : Calls Tryz.prog 10 #[.slice p n cp] W (LvR W (ldV ((get S.now nV).map str))) := by
  have hg := files_get h.up h.nm nV
  have := rlv_any (filesOf S) n hn (by rw [← hn]; exact ls_few h) p cp W T (fun s hs => by
    rw [hg] at hs
    rcases hl : get S.now nV with _ | l
    · rw [hl] at hs; cases hs
    · rw [hl] at hs
      injection hs with hs
      rw [← hs]; exact ls_size h nV l hl)
  rw [hg] at this
  exact this
theorem ls_rsnap (h : Ls w W D S) {n cp : Nat} {p : Option Addr} (hn : (filesOf S).length = n) (T : Filed W p (filesOf S)) : Calls Tryz.prog 12 #[.slice p n cp] W (LsR W (ldS ((get S.now nS).map str))) := by
  have hg := files_get h.up h.nm nS
  have := rls_any (filesOf S) n hn (by rw [← hn]; exact ls_few h) p cp W T (fun s hs => by
    rw [hg] at hs
    rcases hl : get S.now nS with _ | l
    · rw [hl] at hs; cases hs
    · rw [hl] at hs
      injection hs with hs
      rw [← hs]; exact ls_size h nS l hl)
  rw [hg] at this
  exact this
theorem ls_calls (h : Ls w W D S) : Calls Tryz.prog 7 #[.pointer (some ⟨D, 0, none⟩)] W fun e w' => e = .returned (.int .i64 S.calls) ∧ W = w' := by
  obtain ⟨m, d⟩ := h.d
  exact calls_any d
end
end Go.Proofs.YthnnenhpcceckaaGreat
