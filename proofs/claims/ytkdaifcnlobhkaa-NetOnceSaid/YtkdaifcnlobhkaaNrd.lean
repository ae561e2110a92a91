/-
  raft: AN ASK IS READ: what comes off a tape; a message that lies in a block; takeMsg, Read.
-/
import Derived.Test.YtkdaifcnlobhkaaNwr
import Derived.Deep.MidRow
namespace Go.Proofs.Ytkdaifcnlobhkaa
open Go.RowKit
theorem rd_text_le (s more : ByteArray) (most : Int) (hm : (s.size : Int) ≤ most) (hs : s.size < 9223372036854775808) : Bt.rdText (Bt.textS s ++ more) most = (s, (Bt.textS s).size, 0) := by
  have hd : (Bt.textS s ++ more).data.toList = (Bt.numS (s.size : Int)).data.toList ++ (s.data.toList ++ more.data.toList) := by
    unfold Bt.textS; rw [Bt.cat_data, Bt.cat_data, List.append_assoc]
  have hR : Bt.rdNum (Bt.textS s ++ more).data.toList = (s.size, (Bt.numS (s.size : Int)).size, 0) := by rw [hd]; exact Bt.rd_num _ (by omega) _
  have hz : (Bt.textS s ++ more).size = (Bt.numS (s.size : Int)).size + s.size + more.size := by unfold Bt.textS; rw [ByteArray.size_append, ByteArray.size_append]
  rw [Bt.rdText_eq _ _ hR, if_neg (by simp), if_neg (by omega), if_neg (by omega)]
  have ht : (Bt.textS s).size = (Bt.numS (s.size : Int)).size + s.size := by unfold Bt.textS; rw [ByteArray.size_append]
  rw [ht]
  refine congrArg (fun x => (x, _)) ?_
  apply Bt.bytes_ext
  rw [Lib.extract_data, hd, Lib.size_eq (Bt.numS (s.size : Int)), List.drop_left, Nat.add_sub_cancel_left, Lib.size_eq s, List.take_left]
theorem cat_rest (a r : ByteArray) : (a ++ r).extract a.size (a ++ r).size = r := by
  apply Bt.bytes_ext
  rw [Bt.ext_data, Bt.cat_data, Lib.size_eq a, List.drop_left]
theorem tNum_off (n : Nat) (hn : n < 18446744073709551616) (r : ByteArray) : Bt.tNum (Bt.numS (n : Int) ++ r) 0 = (n, r, 0) := by
  unfold Bt.tNum
  rw [Bt.cat_data, Bt.rd_num n hn, Bt.tk_ok, cat_rest]
theorem tFlag_off (b : Bool) (r : ByteArray) : Bt.tFlag (Bt.flagS b ++ r) 0 = (b, r, 0) := by
  unfold Bt.tFlag
  rw [Bt.cat_data, Bt.rd_flag, Bt.tk_ok, cat_rest]
theorem tText_off (s r : ByteArray) (most : Int) (hm : (s.size : Int) ≤ most) (hs : s.size < 9223372036854775808) : Bt.tText (Bt.textS s ++ r) 0 most = (s, r, 0) := by
  unfold Bt.tText
  rw [rd_text_le _ _ _ hm hs, Bt.tk_ok, cat_rest]
/-- the tape at b, what is left of it; what lies ahead of w0's end and not at b is as it was -/
structure TS (w0 w : World) (b : Nat) (s : ByteArray) : Prop where
  t : Bt.TapeAt w b s 0
  f : Fr w0 w (fun q => q = b)
  z : s.size ≤ 281474976710656
theorem TS.next {w0 w w' : World} {b : Nat} {s : ByteArray} (h : TS w0 w b s) (hb : Below w.heap.size w w') : TS w0 w' b s :=
  ⟨h.t.next hb, h.f.on (Fr.of_below hb _), h.z⟩
theorem TS.step {w0 w w' : World} {b : Nat} {a r : ByteArray} (h : TS w0 w b (a ++ r)) (hg : w.grownBy w' (some b)) (ht : Bt.TapeAt w' b r 0) : TS w0 w' b r :=
  ⟨ht, h.f.on ((Fr.of_grown hg).mono (fun q _ e => by injection e)), by have := h.z; rw [ByteArray.size_append] at this; omega⟩
theorem TS.num {w0 w : World} {b n : Nat} {r : ByteArray} (h : TS w0 w b (Bt.numS (n : Int) ++ r)) (hn : n < 18446744073709551616) : Calls Try.prog 71 #[.pointer (some ⟨b, 0, none⟩)] w fun e w' => e = .returned (.int .u64 (n : Int)) ∧ Fr w w' (fun q => q = b) ∧ TS w0 w' b r := by
  have H := Bt.tapeNum_any h.t h.z
  rw [tNum_off n hn] at H
  exact H.mono fun e w' ⟨he, hg, ht⟩ => ⟨he, (Fr.of_grown hg).mono (fun q _ e => by injection e), h.step hg ht⟩
theorem TS.numI {w0 w : World} {b : Nat} {x : Int} {r : ByteArray} (h : TS w0 w b (Bt.numS x ++ r)) (h0 : 0 ≤ x) (h1 : x ≤ 9223372036854775807) : Calls Try.prog 71 #[.pointer (some ⟨b, 0, none⟩)] w fun e w' => e = .returned (.int .u64 x) ∧ Fr w w' (fun q => q = b) ∧ TS w0 w' b r := by
  obtain ⟨n, rfl⟩ : ∃ n : Nat, x = (n : Int) := ⟨x.toNat, by omega⟩
  exact h.num (by omega)
theorem TS.flag {w0 w : World} {b : Nat} {v : Bool} {r : ByteArray} (h : TS w0 w b (Bt.flagS v ++ r)) : Calls Try.prog 72 #[.pointer (some ⟨b, 0, none⟩)] w fun e w' => e = .returned (.bool v) ∧ Fr w w' (fun q => q = b) ∧ TS w0 w' b r := by
  have H := Bt.tapeFlag_any h.t h.z
  rw [tFlag_off] at H
  exact H.mono fun e w' ⟨he, hg, ht⟩ => ⟨he, (Fr.of_grown hg).mono (fun q _ e => by injection e), h.step hg ht⟩
theorem TS.text {w0 w : World} {b : Nat} {s r : ByteArray} (most : Int) (h : TS w0 w b (Bt.textS s ++ r)) (hm : (s.size : Int) ≤ most) (hm2 : most ≤ 262144) : Calls Try.prog 74 #[.pointer (some ⟨b, 0, none⟩), .int .i64 most] w fun e w' => e = .returned (.string s) ∧ Fr w w' (fun q => q = b) ∧ TS w0 w' b r := by
  have H := Bt.tapeText_any (most := most) h.t h.z (by omega) (by omega)
  rw [tText_off s r most hm (by omega)] at H
  exact H.mono fun e w' ⟨he, hg, ht⟩ => ⟨he, (Fr.of_grown hg).mono (fun q _ e => by injection e), h.step hg ht⟩
/-! ### a message in a block -/
theorem siz35 : (Try.prog.info? 35).map (·.size) = some 13 := by kernel_rfl
theorem setRow_blk {w : World} {g : Nat} {t : TypeId} {old cs : Array Value} (h : Blk w g t old) : Blk (w.setRow g cs) g t cs := by
  unfold Blk at h ⊢
  simp [World.setRow, Array.getElem?_modify, h]
theorem setRow_fr {w : World} {g : Nat} {cs : Array Value} : Fr w (w.setRow g cs) (fun q => q = g) :=
  ⟨rfl, rfl, rfl, by simp [World.setRow], fun k _ hne => by
    simp only [World.setRow]
    rw [Array.getElem?_modify, if_neg (fun e => hne e.symm)]⟩
theorem load_msg {ops : Array Oper} {rest : List Oper} {o : Oper} {a : Act} {w : World} {Q : Exit → Act → World → Prop} {g : Nat} {cs : Array Value} (hK : Blk w g 35 cs) (hs : cs.size = 13)
    (hgd : o.guard = none) (x : Operand) (ho : o.op = .load 35 x) (hx : a.eval x = .pointer (some ⟨g, 0, none⟩))
    (h : wpList Try.prog ops Q rest (a.put o.dst (.agg cs)) w) : wpList Try.prog ops Q (o :: rest) a w :=
  wpList_load_row hgd 35 x ho g hx 35 cs (0, 0) _ hK Try.underlying35 rfl (by rw [hs]; exact siz35) h
theorem store_msg {ops : Array Oper} {rest : List Oper} {o : Oper} {a : Act} {w : World} {Q : Exit → Act → World → Prop} {g : Nat} {old cs : Array Value} (hK : Blk w g 35 old) (h29 : old.size = 13) (hs : cs.size = 13) (h1 : cs.all (·.oneCell') = true)
    (hgd : o.guard = none) (x y : Operand) (ho : o.op = .store 35 x y) (hx : a.eval x = .pointer (some ⟨g, 0, none⟩)) (hy : a.eval y = .agg cs)
    (h : ∀ W, Blk W g 35 cs → Fr w W (fun q => q = g) → wpList Try.prog ops Q rest (a.put o.dst undef) W) : wpList Try.prog ops Q (o :: rest) a w := by
  refine wpList_plain hgd fun _ hK' => ?_
  unfold Oper.wp execOp
  simp only [ho, hx, hy, Instr.storeAt, Instr.sureAddr, Sem.run_bind, Sem.run_pure, Result.andThen_ok, run_storeVar_row w g 35 35 old cs hK (by rw [hs]; exact siz35) (by rw [h29, hs]) h1]
  exact hK' _ _ (h _ (setRow_blk hK) setRow_fr)
theorem res_msg {fn : Func} {t : Tmp} (hr : fn.results = #[.cell t 35]) (tmps : Array Value) {w : World} {g : Nat} {cs : Array Value} (hp : tmps.getD t undef = .pointer (some ⟨g, 0, none⟩)) (hK : Blk w g 35 cs) (hs : cs.size = 13) :
    (results fn tmps).run Try.prog w = .ok (.agg cs) w := by
  have hp' : tmps[t]?.getD undef = .pointer (some ⟨g, 0, none⟩) := by simpa using hp
  simp [results, hr, hp', asAddr, run_loadVar_row w g 35 35 cs (0, 0) _ hK Try.underlying35 rfl (by rw [hs]; exact siz35)]
theorem res_msg2 {fn : Func} {t u : Tmp} (hr : fn.results = #[.cell t 35, .tmp u]) (tmps : Array Value) {w : World} {g : Nat} {cs : Array Value} (hp : tmps.getD t undef = .pointer (some ⟨g, 0, none⟩)) (hK : Blk w g 35 cs) (hs : cs.size = 13) :
    (results fn tmps).run Try.prog w = .ok (.tuple #[.agg cs, tmps.getD u undef]) w := by
  have hp' : tmps[t]?.getD undef = .pointer (some ⟨g, 0, none⟩) := by simpa using hp
  simp [results, hr, hp', asAddr, run_loadVar_row w g 35 35 cs (0, 0) _ hK Try.underlying35 rfl (by rw [hs]; exact siz35)]
def zerA : Array Value := #[.int .i64 0, .int .i64 0, .int .i64 0, .int .i64 0, .int .i64 0, .int .i64 0, .int .i64 0, .bool false, .slice none 0 0, .int .i64 0, .int .i64 0, .int .i64 0, .string ⟨#[]⟩]
theorem ask_one (f t m : Int) : (askA f t m).all (·.oneCell') = true := by
  unfold askA
  simp [Value.oneCell']
/-- an ask's text, as it is taken -/
theorem ba_asc (a b c : ByteArray) : a ++ b ++ c = a ++ (b ++ c) := ByteArray.append_assoc
theorem ba_nl (a : ByteArray) : (⟨#[]⟩ : ByteArray) ++ a = a := by apply ByteArray.ext; simp
theorem ba_nr (a : ByteArray) : a ++ ⟨#[]⟩ = a := by apply ByteArray.ext; simp
theorem catN_cons (x : Int) (l : List Int) : catN (x :: l) = Bt.numS x ++ catN l := by
  have aux : ∀ (l : List Int) (s : ByteArray), l.foldl (fun s n => s ++ Bt.numS n) s = s ++ catN l := by
    intro l
    induction l with
    | nil => intro s; exact (ba_nr s).symm
    | cons y l ih =>
      intro s
      unfold catN
      rw [List.foldl_cons, List.foldl_cons, ih, ih (⟨#[]⟩ ++ Bt.numS y), ba_nl, ba_asc]
  show (l.foldl (fun s n => s ++ Bt.numS n) (⟨#[]⟩ ++ Bt.numS x)) = _
  rw [aux, ba_nl]
theorem catN_nil : catN [] = ⟨#[]⟩ := rfl
theorem askS_eq (f t m : Int) : askS f t m = Bt.numS 1 ++ (Bt.numS f ++ (Bt.numS t ++ (Bt.numS m ++ (Bt.numS 0 ++ (Bt.numS 0 ++ (Bt.numS 0 ++ (Bt.flagS false ++ (Bt.numS 0 ++ (Bt.numS 0 ++ (Bt.numS 0 ++ (Bt.numS 0 ++ (Bt.textS ⟨#[]⟩ ++ ⟨#[]⟩)))))))))))) := by
  unfold askS
  simp only [catN_cons, catN_nil, ba_nr, ba_asc]
theorem askS_size (f t m : Int) : (askS f t m).size ≤ 200 := by
  have z7 := catN_size [1, f, t, m, 0, 0, 0]
  have z1 := catN_size [0]
  have z3 := catN_size [0, 0, 0]
  have zf : (Bt.flagS false).size = 1 := rfl
  have zt : (Bt.textS ⟨#[]⟩).size ≤ 20 := by decide
  simp only [List.length_cons, List.length_nil] at z7 z1 z3
  unfold askS
  simp only [ByteArray.size_append]
  omega
end Go.Proofs.Ytkdaifcnlobhkaa
