/-
  BitsBack, where what comes in is of bulk at most the number that the statement names: the law returns true: what is written is read as it was, one behind the other, whatever stands behind; each argument reads behind the call as it read before. Condition: that bulk.
-/
import Derived.Test.YtpnkdpmhphhenaaFrame
import Derived.Test.YtpnkdpmhphhenaaBackWalk
import Derived.Deep.Slices
import Derived.JoinedCond
namespace Go.Proofs.Ytpnkdpmhphhenaa.bitsBack
open Go.ChangeShapes Go.WideShapes Go.ChangeAt Go.RowKit
open Go.ChangeMaps (open_string)
instance : Inhabited Thg := ⟨⟨0, 0, 0, 0, ⟨#[]⟩, false⟩⟩
theorem ce48 : Try.prog.cellsOf 48 = 6 := by kernel_rfl
theorem ce5 : Try.prog.cellsOf 5 = 1 := by kernel_rfl
theorem ce22 : Try.prog.cellsOf 22 = 1 := by kernel_rfl
theorem ce3 : Try.prog.cellsOf 3 = 1 := by kernel_rfl
theorem ce27 : Try.prog.cellsOf 27 = 1 := by kernel_rfl
theorem ce9 : Try.prog.cellsOf 9 = 1 := by kernel_rfl
theorem ce4 : Try.prog.cellsOf 4 = 1 := by kernel_rfl
theorem lt_float {n : Nat} (h : (Lit.float .f64 n).wf = true) : n < 18446744073709551616 := by
  have h2 : n < 2 ^ 64 := of_decide_eq_true h
  omega
/-- how a thing reads -/
def dat {H : Type} (x : Thg) : DataW H := .agg [.lit (.int .u8 x.k), .lit (.int .u64 (x.n : Int)), .lit (.int .i64 x.m), .lit (.float .f64 x.f), .lit (.string x.s.data.toList), .lit (.bool x.c)]
theorem open_thing {H : Type} {enc : TypeId × Value → H} {W : World} {base n : Nat} {sp : Nat → Bool} {hd : Bool} {a : Addr} {cs : List Value} {y : DataW H × List MemPlace}
    (h1 : W.cells? base a 6 = some cs) (h2 : DataW.trod enc Try.prog W base sp hd n 48 cs = some y) (hb : Rows.uptoBulk y.1 ≤ 1048576) :
    ∃ x : Thg, x.ok ∧ y.1 = dat x ∧ W.cell? (a.add 0) = some (.int .u8 x.k) ∧ W.cell? (a.add 1) = some (.int .u64 (x.n : Int)) ∧ W.cell? (a.add 2) = some (.int .i64 x.m) ∧
      W.cell? (a.add 3) = some (.float .f64 x.f) ∧ W.cell? (a.add 4) = some (.string x.s) ∧ W.cell? (a.add 5) = some (.bool x.c) := by
  obtain ⟨_, hlen, hcell⟩ := World.cells?_some h1
  obtain ⟨xs, k, hk, hxy, _, hxl, hf⟩ := DataW.trod_struct Try.underlying48 h2
  match xs, hxl, cs, hlen with
  | [y0, y1, y2, y3, y4, y5], _, [v0, v1, v2, v3, v4, v5], _ =>
    have g0 := hf 0 _ rfl
    have g1 := hf 1 _ rfl
    have g2 := hf 2 _ rfl
    have g3 := hf 3 _ rfl
    have g4 := hf 4 _ rfl
    have g5 := hf 5 _ rfl
    simp [ce5] at g0
    simp [ce22] at g1
    simp [ce3] at g2
    simp [ce27] at g3
    simp [ce9] at g4
    simp [ce4] at g5
    obtain ⟨k0, e0, d0, w0⟩ := DataW.trod_int Try.underlying5 g0
    obtain ⟨k1, e1, d1, w1⟩ := DataW.trod_int Try.underlying22 g1
    obtain ⟨k2, e2, d2, w2⟩ := DataW.trod_int Try.underlying3 g2
    obtain ⟨k3, e3, d3, w3⟩ := trod_float Try.underlying27 g3
    obtain ⟨k4, e4, d4, w4⟩ := DataW.trod_string Try.underlying9 g4
    obtain ⟨k5, e5, d5⟩ := DataW.trod_bool Try.underlying4 g5
    simp only [List.cons.injEq, and_true] at e0 e1 e2 e3 e4 e5
    subst e0 e1 e2 e3 e4 e5
    subst d0 d1 d2 d3 d4 d5
    subst hxy
    obtain ⟨N, rfl⟩ : ∃ N : Nat, k1 = (N : Int) := ⟨k1.toNat, by have := (bounds_u64 w1).1; omega⟩
    have hs4 : k4.size ≤ 281474976710656 := by
      have hb2 := hb
      simp only [List.map_cons, List.map_nil, Rows.uptoBulk, Rows.uptoBulkAll] at hb2
      have e : k4.data.toList.length = k4.size := by rw [Array.length_toList]; rfl
      omega
    refine ⟨⟨k0, N, k2, k3, k4, k5⟩, ⟨(bounds_u8 w0).1, by have := (bounds_u8 w0).2; simp only; omega, by have := (bounds_u64 w1).2; simp only; omega, (bounds_i64 w2).1, (bounds_i64 w2).2, lt_float w3, hs4⟩, rfl, ?_, ?_, ?_, ?_, ?_, ?_⟩
    · simpa using hcell 0 (by omega)
    · simpa using hcell 1 (by omega)
    · simpa using hcell 2 (by omega)
    · simpa using hcell 3 (by omega)
    · simpa using hcell 4 (by omega)
    · simpa using hcell 5 (by omega)
/-- all the letters of the texts -/
def tot (l : List Thg) : Nat := (l.map fun x => x.s.size).sum
theorem bytes_size (x : Thg) (h : x.ok) : x.bytes.size ≤ x.s.size + 9 := by
  have h8 : (realS x.f).size = 8 := by
    have := congrArg (fun y => y.2.1) (rd_real x.f h.f1 [])
    unfold realS
    rw [strOfNums_size, be_len]
  have hn := numS_size (x.n : Int)
  have hi := numS_size ((Lib.zigzag x.m : Nat) : Int)
  have ht := numS_size (x.s.size : Int)
  unfold Thg.bytes
  repeat' split
  · omega
  · unfold intS; omega
  · omega
  · unfold textS; rw [ByteArray.size_append]; omega
  · have hfl : ∀ b, (flagS b).size = 1 := fun b => by cases b <;> rfl
    rw [hfl]; omega
theorem catT_size (l : List Thg) (h : ∀ x ∈ l, x.ok) : (catT l).size ≤ tot l + 9 * l.length := by
  induction l with
  | nil => exact Nat.zero_le _
  | cons x l ih =>
    have h1 := bytes_size x (h x List.mem_cons_self)
    have h2 := ih fun y hy => h y (List.mem_cons_of_mem _ hy)
    simp only [catT, tot, List.map_cons, List.sum_cons, List.length_cons, ByteArray.size_append] at *
    omega
theorem tot_bulk {H : Type} (l : List Thg) : tot l ≤ Rows.uptoBulkAll (l.map (dat (H := H))) := by
  induction l with
  | nil => simp [tot, Rows.uptoBulkAll]
  | cons x l ih =>
    have e : x.s.data.toList.length = x.s.size := by rw [Array.length_toList]; rfl
    have hd : x.s.size ≤ Rows.uptoBulk (dat (H := H) x) := by
      unfold dat
      simp only [Rows.uptoBulk, Rows.uptoBulkAll]
      omega
    simp only [tot, List.map_cons, List.sum_cons, Rows.uptoBulkAll] at *
    omega
theorem part_le {H : Type} {d : DataW H} {l : List (DataW H)} (h : d ∈ l) : Rows.uptoBulk d ≤ Rows.uptoBulkAll l := by
  induction l with
  | nil => simp at h
  | cons x l ih =>
    simp only [Rows.uptoBulkAll]
    rcases List.mem_cons.1 h with rfl | h
    · omega
    · have := ih h; omega
theorem open_things {H : Type} {enc : TypeId × Value → H} {W : World} {base b0 : Nat} {v : Value} {d : DataW H} {p : List MemPlace} (hv : Value.okWide Try.prog W .any b0 45 v) (h : DataW.Trod enc Try.prog W base (fun _ => true) true 45 v d p) (hb : Rows.uptoBulk d ≤ 1048576) :
    ∃ (a : Option Addr) (l : List Thg) (c : Nat), v = .slice a l.length c ∧ l.length ≤ c ∧ Things W a l ∧ (∀ x ∈ l, x.ok) ∧ tot l ≤ 1048576 := by
  obtain ⟨a0, len, cap, rfl⟩ := okWide_slice Try.underlying45 hv
  obtain ⟨fuel, hf⟩ := h
  rcases Go.Deep.open_slice Try.underlying45 hf with ⟨hcs, hx⟩ | ⟨a, len', cap', m, n, D, Pl, hcs, _, hl, hm, hmm, hx, hE⟩
  · simp [Value.cells] at hcs
    obtain ⟨rfl, rfl, rfl⟩ := hcs
    exact ⟨none, [], 0, rfl, Nat.zero_le _, fun i hi => by simp at hi, fun x hx => by simp at hx, by simp [tot]⟩
  · simp [Value.cells] at hcs
    obtain ⟨rfl, rfl, rfl⟩ := hcs
    simp only [if_true] at hmm
    simp only [Prod.mk.injEq] at hx
    obtain ⟨rfl, _⟩ := hx
    have hlm : len ≤ m := by omega
    have hba : ∀ i, i < len → Rows.uptoBulk (D i) ≤ 1048576 := fun i hi => by
      have h1 : D i ∈ (List.range len).map D := List.mem_map.2 ⟨i, List.mem_range.2 hi, rfl⟩
      have h2 := part_le h1
      simp only [Rows.uptoBulk] at hb
      omega
    have each : ∀ i, i < len → ∃ x : Thg, x.ok ∧ D i = dat x ∧ W.cell? ((a.add (i * 6)).add 0) = some (.int .u8 x.k) ∧ W.cell? ((a.add (i * 6)).add 1) = some (.int .u64 (x.n : Int)) ∧ W.cell? ((a.add (i * 6)).add 2) = some (.int .i64 x.m) ∧
        W.cell? ((a.add (i * 6)).add 3) = some (.float .f64 x.f) ∧ W.cell? ((a.add (i * 6)).add 4) = some (.string x.s) ∧ W.cell? ((a.add (i * 6)).add 5) = some (.bool x.c) := fun i hi => by
      obtain ⟨cs', h1, h2⟩ := hE i (by omega)
      rw [ce48] at h1
      exact open_thing h1 h2 (hba i hi)
    obtain ⟨q, hq⟩ := Go.Deep.choose_lt each
    have hlen : ((List.range len).map q).length = len := by simp
    have hD : (List.range len).map D = ((List.range len).map q).map (dat (H := H)) := by
      rw [List.map_map]
      exact List.map_congr_left fun i hi => (hq i (List.mem_range.1 hi)).2.1
    refine ⟨some a, (List.range len).map q, cap, by rw [hlen], by rw [hlen]; exact hl, ?_, fun x hx => ?_, ?_⟩
    · intro i hi
      have hi' : i < len := by rw [hlen] at hi; exact hi
      have hg : ((List.range len).map q)[i] = q i := by simp
      rw [hg]
      obtain ⟨_, _, c0, c1, c2, c3, c4, c5⟩ := hq i hi'
      obtain ⟨b, o, sp⟩ := a
      cases sp with
      | none =>
        have ea : ∀ j, ((⟨b, o, none⟩ : Addr).add (i * 6)).add j = ⟨b, o + i * 6 + j, none⟩ := fun j => by
          unfold Addr.add; split <;> split <;> simp_all
        rw [ea] at c0 c1 c2 c3 c4 c5
        exact ⟨b, o, rfl, World.block_lt_of_cell? _ _ c0, c0, c1, c2, c3, c4, c5⟩
      | some z =>
        exfalso
        have h00 := (hq 0 (by omega)).2.2.1
        have e0 : ((⟨b, o, some z⟩ : Addr).add (0 * 6)).add 0 = ⟨b, o, some z⟩ := by simp [Addr.add]
        rw [e0] at h00
        have h01 : W.cell? ⟨b, o, some z⟩ = none := by
          unfold World.cell?
          split <;> simp
        rw [h01] at h00; simp at h00
    · obtain ⟨i, hi, rfl⟩ := List.mem_map.1 hx
      exact (hq i (List.mem_range.1 hi)).1
    · have h1 := tot_bulk (H := H) ((List.range len).map q)
      rw [← hD] at h1
      simp only [Rows.uptoBulk] at hb
      omega
theorem contract (H : Type) (enc : TypeId × Value → H) (W : World) (base : Nat) (args : Array Value) (ds gs : List (DataW H)) (before : List MemPlace)
    (hval : ∀ (j : Nat) t v, Try.f7.params[j]? = some t → args[j]? = some v → Value.okWide Try.prog W .any base t v)
    (hW : DataW.Whole enc Try.prog Try.f7.params.toList Rows.bitsBackSpec.vars false W args.toList ds gs before) (hk : Rows.uptoSmall H (ds ++ gs) = true) :
    Calls Try.prog 7 args W fun e W' => ∃ v, e = .returned v ∧ Rows.bitsBackSpec.post enc Try.prog Try.f7 false true false false W args v W' := by
  have hW' := hW
  obtain ⟨p, q, hA0, hV, rfl, hfz, hnd⟩ := hW
  have hA : DataW.TrodAll enc Try.prog W 0 (fun _ => true) true Try.f7.params.toList args.toList ds p := hA0
  have hAll := hA
  rw [Try.params7] at hA hval
  obtain ⟨v0, vs0, d0, ds0, p0, q0, hargs, rfl, rfl, h0, r0⟩ := trodAll_cons hA
  obtain ⟨v1, vs1, d1, ds1, p1, q1, rfl, rfl, rfl, h1, r1⟩ := trodAll_cons r0
  obtain ⟨rfl, rfl, rfl⟩ := trodAll_nil r1
  obtain rfl : args = #[v0, v1] := by cases args; simp_all
  obtain ⟨rfl, rfl⟩ := trodVars_none hV
  obtain ⟨s, rfl, rfl, rfl, hmax⟩ := open_string Try.underlying9 (hval 1 9 v1 rfl rfl) h1
  have hkk : Rows.uptoBulkAll (H := H) ([d0, .lit (.string s.data.toList)] ++ []) ≤ 1048576 := of_decide_eq_true hk
  simp only [Rows.uptoBulkAll, Rows.uptoBulk, List.append_nil] at hkk
  have e : s.data.toList.length = s.size := by rw [Array.length_toList]; rfl
  obtain ⟨a, l, c, rfl, hcap, hth, hok, htot⟩ := open_things (hval 0 45 v0 rfl rfl) h0 (by omega)
  clear hA0 hA
  have hc50 : (l.take 50).length ≤ 50 := by rw [List.length_take]; omega
  have ht50 : tot (l.take 50) ≤ tot l := by
    have := congrArg tot (List.take_append_drop 50 l)
    simp only [tot, List.map_append, List.sum_append] at this ⊢
    omega
  have hz := catT_size (l.take 50) fun x hx => hok x (List.mem_of_mem_take hx)
  refine (back_law l a c s W _ rfl hcap hok (by omega) hth).mono fun e W' ⟨he, hg⟩ => ?_
  subst he
  exact ⟨_, rfl, law_post (tb := 4) laidOut (by rw [Try.params7]; decide +kernel) rfl rfl Try.underlying4 rfl hW' hAll hAll.lt hg⟩
set_option maxRecDepth 100000 in
theorem lifted (os : Os) (started : os.Started) (H : Type) (enc : TypeId × Value → H) (F : Stop.Interp) :
    ReturnsInHanded {} Try.checked os 7 .any ((Rows.OpenSpec.upto Rows.bitsBackSpec).pre6 enc Try.prog Try.f7 Rows.bitsBackUptoRow.domain false) (((Rows.OpenSpec.upto Rows.bitsBackSpec).at F).post enc Try.prog Try.f7 false true false false) := by
  refine returnsInHanded_of_cond (C := Try.checked) (s := Rows.OpenSpec.upto Rows.bitsBackSpec) (k := Rows.uptoSmall) rfl own started (by kernel_rfl) Try.func7
    (OpenSpec.witness (enc := enc) (C := Try.checked) (s := Rows.OpenSpec.upto Rows.bitsBackSpec) (k := Rows.uptoSmall) rfl false ⟨#[], #[.slice none 0 0, .string .empty], []⟩ 8 (by kernel_rfl) (by kernel_rfl) (by kernel_rfl)
      (x := ([.nil, .lit (.string [])], [], [])) (by kernel_rfl) rfl (by kernel_rfl)) ?_
  intro W base args ds gs before hval hW _ hk _
  exact contract H enc W base args ds gs before hval hW hk
theorem holds : Rows.BitsBackUptoSaid :=
  OpenClaim.holds_of_cond 7 Try.f7 rfl rfl rfl rfl rfl rfl rfl ⟨rfl, rfl, rfl, rfl, rfl⟩ rfl rfl rfl rfl rfl (by kernel_rfl) Try.func7 (by kernel_rfl)
    (of_decide_eq_true (by kernel_rfl)) (by unfold Func.isWrapper; first | (rw [if_pos (by decide +kernel)]; kernel_rfl) | (rw [if_neg (by decide +kernel)]; exact ⟨rfl, rfl⟩))
    (fun os started H enc _ F => lifted os started H enc F)
end Go.Proofs.Ytpnkdpmhphhenaa.bitsBack
