/- TopRaw answers true (every call ends) for whatever shelf, words and word, and leaves them as they were, where all that comes in holds at most 1048576 values (the second form). The row lists two tables of Go's library (unicode/utf8's first and acceptRanges) and one variable of the program's (guess.nothing), which the card ties to the program's text. -/
import Derived.Test.YtoejenejleocdabGreatDoorUm
import Derived.Test.YtoejenejleocdabGreatDoorJo
import Derived.Test.YtoejenejleocdabGreatDoorJm
import Derived.Test.YtoejenejleocdabGreatDoorCards
import Derived.Test.YtoejenejleocdabGreatDoorTie
import Derived.WalkKit
import Derived.ProofKit
import Derived.OpenShut
import Derived.ShutString
import Derived.ChangeMaps5
import Derived.ChangeOld
import Derived.Below
import Derived.Deep.DeepHandedRow
import Derived.LaidMore
import Derived.Lay
import Derived.SevenTiedAt
import Derived.Stop.Joined
import Derived.Shelf.Vars
namespace Go.Proofs.YtoejenejleocdabGreatDoor
open Go.ChangeShapes Go.WideShapes Go.ChangeAt Go.RowKit

theorem holds_bulk {H : Type} {d : DataW H} {n : Nat} (h : Holds d n) : n ≤ Rows.uptoBulk d := by
  rcases h with rfl | ⟨es, sp, rfl, rfl⟩
  · exact Nat.zero_le _
  · exact bulk_slice es sp
theorem bulk_agg {H : Type} (ps : List (DataW H)) : Rows.uptoBulk (.agg ps : DataW H) = Rows.uptoBulkAll ps + 1 := by unfold Rows.uptoBulk; rfl
theorem topRaw_any (ws : List Tx.Wd) (s : Rf) (q y : ByteArray) (w : World) (h : RSH w ws s) (hg : GV w) (hq : q.data.toList.length ≤ 1048576) (hy : y.data.toList.length ≤ 1048576) :
    Calls Tryz.prog 10 #[s.v, .string q, .string y] w fun e w' => e = .returned (.bool true) ∧ Below w.heap.size w w' := by
  have e1 : Value.string q = sv q.data.toList := by unfold sv; rw [toArray_data]
  have e2 : Value.string y = sv y.data.toList := by unfold sv; rw [toArray_data]
  rw [e1, e2]
  exact topRaw_walk ws s _ _ w h hg (by omega) (by omega)

set_option maxRecDepth 100000 in
theorem topRaw_laid (os : Os) : laidMet Tryz.prog Rows.topRawUptoRow.laid ((World.laidAll Tryz.prog os Rows.topRawUptoRow.laid).forCall (fun _ _ => 0) ⟨#[], #[.agg #[.slice none 0 0, .slice none 0 0, .slice none 0 0, .int .i64 0, .int .i64 0, .slice none 0 0, .slice none 0 0], .string ⟨#[]⟩, .string ⟨#[]⟩], []⟩).memory :=
  laidMet_of_run' 8 (by kernel_rfl) (by kernel_rfl)
theorem topRaw_reads (os : Os) {H : Type} (enc : TypeId × Value → H) : ∃ places, DataW.whole enc Tryz.prog ((World.laidAll Tryz.prog os Rows.topRawUptoRow.laid).forCall (fun _ _ => 0) ⟨#[], #[.agg #[.slice none 0 0, .slice none 0 0, .slice none 0 0, .int .i64 0, .int .i64 0, .slice none 0 0, .slice none 0 0], .string ⟨#[]⟩, .string ⟨#[]⟩], []⟩).memory Tryz.f10.params.toList Rows.topRawSpec.vars false #[(Value.agg #[.slice none 0 0, .slice none 0 0, .slice none 0 0, .int .i64 0, .int .i64 0, .slice none 0 0, .slice none 0 0]), .string ⟨#[]⟩, .string ⟨#[]⟩].toList 8 = some ([.agg [.agg [.nil, .nil], .agg [.nil, .agg [.lit (.int .i64 0), .lit (.int .i64 0), .nil], .nil]], .lit (.string []), .lit (.string [])], [], places) :=
  ⟨[], by kernel_rfl⟩

set_option maxRecDepth 100000 in
theorem topRaw_contract (H : Type) (enc : TypeId × Value → H) (W : World) (base : Nat) (args : Array Value) (ds gs : List (DataW H)) (before : List MemPlace)
    (hval : ∀ (j : Nat) t v, Tryz.f10.params[j]? = some t → args[j]? = some v → Value.okWide Tryz.prog W .any base t v)
    (hW : DataW.Whole enc Tryz.prog Tryz.f10.params.toList Rows.topRawSpec.vars false W args.toList ds gs before)
    (hk : Rows.uptoSmall H (ds ++ gs) = true) (hL : laidMet Tryz.prog Rows.topRawUptoRow.laid W) (hsh : W.ShapedOpen Tryz.prog) :
    Calls Tryz.prog 10 args W fun e W' => ∃ v, e = .returned v ∧ Rows.topRawSpec.post enc Tryz.prog Tryz.f10 false true false false W args v W' := by
  have hgv : GV W := ⟨maxLen_cell hsh, nothing_cells' hL (by unfold Rows.topRawUptoRow; simp)⟩
  have hbk : Rows.uptoBulkAll (ds ++ gs) ≤ 1048576 := of_decide_eq_true hk
  have hW' := hW
  obtain ⟨p, q, hA0, hV, rfl, hfz, hnd⟩ := hW
  have hA : DataW.TrodAll enc Tryz.prog W 0 (fun _ => true) true Tryz.f10.params.toList args.toList ds p := hA0
  rw [Tryz.params10] at hA hval
  obtain ⟨v0, vs0, d0, ds0, p0, q0, hargs, rfl, rfl, h0, r0⟩ := trodAll_cons hA
  obtain ⟨v1, vs1, d1, ds1, p1, q1, rfl, rfl, rfl, h1, r1⟩ := trodAll_cons r0
  obtain ⟨v2, vs2, d2, ds2, p2, q2, rfl, rfl, rfl, h2, r2⟩ := trodAll_cons r1
  obtain ⟨rfl, rfl, rfl⟩ := trodAll_nil r2
  obtain rfl : args = #[v0, v1, v2] := by cases args; simp_all
  obtain ⟨rfl, rfl⟩ := trodVars_none hV
  have lt0 : ∀ x ∈ p0, x.block < W.heap.size := by obtain ⟨m, hm⟩ := h0; exact DataW.trod_lt m _ _ _ hm
  have lt1 : ∀ x ∈ p1, x.block < W.heap.size := by obtain ⟨m, hm⟩ := h1; exact DataW.trod_lt m _ _ _ hm
  have lt2 : ∀ x ∈ p2, x.block < W.heap.size := by obtain ⟨m, hm⟩ := h2; exact DataW.trod_lt m _ _ _ hm
  obtain ⟨s0, ws, e0, e1, e2, e3, e4, e5, e6, rfl, hd0, k0, k2, k3, k4, hR⟩ := open_shelf (hval 0 45 v0 rfl rfl) h0
  obtain ⟨s1, rfl, hd1, _, _⟩ := Go.ChangeMaps.open_string Tryz.underlying9 (hval 1 9 v1 rfl rfl) h1
  obtain ⟨s2, rfl, hd2, _, _⟩ := Go.ChangeMaps.open_string Tryz.underlying9 (hval 2 9 v2 rfl rfl) h2
  simp only [List.append_nil, Rows.uptoBulkAll, hd0, hd1, hd2, bulk_string, bulk_agg] at hbk
  have u0 := holds_bulk k0
  have u2 := holds_bulk k2
  have u3 := holds_bulk k3
  have u4 := holds_bulk k4
  have hsh0 := hR (by omega) (by omega) (by omega) (by omega)
  have hb1 : s1.data.toList.length ≤ 1048576 := by omega
  have hb2 : s2.data.toList.length ≤ 1048576 := by omega
  clear hA0
  refine (topRaw_any ws s0 s1 s2 W hsh0 hgv hb1 hb2).mono fun e W' ⟨he, bel⟩ => ?_
  subst he
  exact ⟨_, rfl, _, _, _, [], _, [], hW', trodAll_mk1 (shut_bool Tryz.underlying4 _), (trodAll_cons_mk (Below.trod laidOut (by kernel_rfl) (of_decide_eq_true (by kernel_rfl)) h0 bel lt0) (trodAll_cons_mk (Below.trod laidOut (by kernel_rfl) (of_decide_eq_true (by kernel_rfl)) h1 bel lt1) (trodAll_cons_mk (Below.trod laidOut (by kernel_rfl) (of_decide_eq_true (by kernel_rfl)) h2 bel lt2) trodAll_mk0))), rfl, bel.frame _, fun h => by cases h⟩

set_option maxRecDepth 100000 in
theorem topRaw_lifted (os : Os) (started : os.Started) (H : Type) (enc : TypeId × Value → H) (F : Stop.Interp) :
    ReturnsInHanded {} Tryz.checked os 10 .any ((Rows.OpenSpec.upto Rows.topRawSpec).preRow enc Tryz.prog Tryz.f10 Rows.topRawUptoRow.domain false Rows.topRawUptoRow.laid) (((Rows.OpenSpec.upto Rows.topRawSpec).at F).post enc Tryz.prog Tryz.f10 false true false false) := by
  obtain ⟨places, hx⟩ := topRaw_reads os enc
  refine returnsInHanded_of_row (C := Tryz.checked) (s := Rows.OpenSpec.upto Rows.topRawSpec) own started (by kernel_rfl) Tryz.func10
    (witness_row_at (enc := enc) (C := Tryz.checked) false (World.laidAll Tryz.prog os Rows.topRawUptoRow.laid) #[.agg #[.slice none 0 0, .slice none 0 0, .slice none 0 0, .int .i64 0, .int .i64 0, .slice none 0 0, .slice none 0 0], .string ⟨#[]⟩, .string ⟨#[]⟩] (World.laidAll_os _ _ _) (by kernel_rfl) (by kernel_rfl) (by kernel_rfl)
      (OpenSpec.preRow_of_cond 8 hx (by kernel_rfl) (fun k hk => by cases hk; kernel_rfl) (by kernel_rfl) (topRaw_laid os))) ?_
  intro W base args ds gs before hval hW _ hcond _ hL hsh _
  exact topRaw_contract H enc W base args ds gs before hval hW (hcond _ rfl) hL hsh

theorem topRaw_saidUpto : Rows.TopRawUptoSaid :=
  OpenClaim.holds_of_cond 10 Tryz.f10 rfl rfl rfl rfl rfl rfl rfl ⟨rfl, rfl, rfl, rfl, rfl⟩ rfl rfl rfl rfl rfl (by kernel_rfl) Tryz.func10 (by kernel_rfl)
    (of_decide_eq_true (by kernel_rfl)) (by unfold Func.isWrapper; first | (rw [if_pos (by decide +kernel)]; kernel_rfl) | (rw [if_neg (by decide +kernel)]; exact ⟨rfl, rfl⟩))
    (fun os started H enc _ F => by rw [OpenClaim.pre_eq_preRow]; exact topRaw_lifted os started H enc F)

/-- no parameter wants a stand-in; the looks are off -/
theorem topRaw_plain (f : FuncId) (fn : Func) (hf : Tryz.pinned.checked.prog.funcNamed Rows.topRawUptoRow.func = some f) (hfn : Tryz.pinned.checked.prog.funcs[f]? = some fn) :
    false = Tryz.pinned.checked.prog.looks [] ∧ ∀ (j : Nat) t, fn.params[j]? = some t → Tryz.pinned.checked.prog.wantsStandIn t = false := by
  obtain rfl : f = 10 := Option.some.inj ((show Tryz.prog.funcNamed Rows.topRawUptoRow.func = some 10 by kernel_rfl).symm.trans hf) |>.symm
  obtain rfl : fn = Tryz.f10 := (Option.some.inj (Tryz.func10.symm.trans hfn)).symm
  refine ⟨by kernel_rfl, fun j t ht => ?_⟩
  rw [Tryz.params10] at ht
  have hm := Array.mem_of_getElem? ht
  have : t = 45 ∨ t = 9 := by simp at hm; omega
  rcases this with rfl | rfl
  · exact (show Tryz.prog.wantsStandIn 45 = false by kernel_rfl)
  · exact (show Tryz.prog.wantsStandIn 9 = false by kernel_rfl)

/-- the statement -/
theorem topRaw_card : Rows.TopRawUptoCardSaid :=
  Claim7.holds_tied_plain_at .later [] _ _ _ _ topRaw_saidUpto (fun _ h => by cases h) (by kernel_rfl) (fun _ h => by cases h) topRawUpto_row_tie rfl ⟨rfl, rfl⟩ (by kernel_rfl) rfl topRaw_plain (by kernel_rfl)
#print axioms topRaw_card

end Go.Proofs.YtoejenejleocdabGreatDoor
