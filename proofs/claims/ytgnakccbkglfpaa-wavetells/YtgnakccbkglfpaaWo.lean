/- bitsOf: the bits of all numbers of lists. -/
import Derived.Test.YtgnakccbkglfpaaWn
import Derived.Test.YtgnakccbkglfpaaBm
namespace Go.Proofs.Ytgnakccbkglfpaa
open Go.RowKit

/-- a list of bools in the making -/
structure OB (w : World) (L : List Bool) (v : Value) (W : World) : Prop where
  own : W.ownsRow w.heap.size 4 1 v L.length (L.map Value.bool)
  old : Below w.heap.size w W
theorem OB.nil (w W : World) (h : Below w.heap.size w W) : OB w [] (.slice none 0 0) W := ⟨World.ownsRow_nil _ _ _ _, h⟩
theorem OB.on {w : World} {L : List Bool} {v : Value} {W W' : World} (h : OB w L v W) (hb : Below W.heap.size W W') : OB w L v W' := ⟨own_below h.own hb, h.old.trans (hb.mono h.old.size)⟩
theorem OB.app {w : World} {L : List Bool} {v v' : Value} {W W' : World} (h : OB w L v W) (x : Bool) (h2 : W'.ownsRow w.heap.size 4 1 v' (L.length + 1) (L.map Value.bool ++ [.bool x])) (hg : W.grownBy W' v.ownBlock) : OB w (L ++ [x]) v' W' :=
  ⟨by simpa using h2, h.old.grown hg h.old.size (fun g hg => (h.own.lt g hg).1)⟩

/-- a function value that tells bit s of a number -/
def IsOne (G : Nat) (cb : Array Value) (s : Nat) (w : World) : Prop := ∀ W, Below w.heap.size w W → ∀ n : Nat, n < 9223372036854775808 → Calls Try.prog G (#[.int .i64 n] ++ cb) W fun e w' => e = .returned (.bool (Wv.bit s n)) ∧ W = w'

/-- what has been read: k lists, and m of the next one -/
def pre (gs : List (List Nat)) (k m : Nat) : List Nat := (gs.take k).flatten ++ (gs.getD k []).take m
theorem pre_zero (gs : List (List Nat)) : pre gs 0 0 = [] := by simp [pre]
theorem pre_in (gs : List (List Nat)) (k m : Nat) (hm : m < (gs.getD k []).length) : pre gs k (m + 1) = pre gs k m ++ [(gs.getD k []).getD m 0] := by
  unfold pre
  rw [List.take_succ_eq_append_getElem hm, List.append_assoc]
  congr 3
  rw [List.getD_eq_getElem?_getD (l := gs.getD k []), List.getElem?_eq_getElem hm, Option.getD_some]
theorem pre_next (gs : List (List Nat)) (k : Nat) (hk : k < gs.length) : pre gs k (gs.getD k []).length = pre gs (k + 1) 0 := by
  unfold pre
  rw [List.take_length, List.take_zero, List.append_nil, List.take_succ_eq_append_getElem hk, List.flatten_append]
  simp [hk]
theorem pre_end (gs : List (List Nat)) : pre gs gs.length 0 = gs.flatten := by simp [pre]
theorem pre_sub (gs : List (List Nat)) (k m : Nat) : (pre gs k m).length ≤ gs.flatten.length := by
  unfold pre
  have e : gs = gs.take k ++ gs.drop k := (List.take_append_drop k gs).symm
  have h : gs.flatten.length = (gs.take k).flatten.length + (gs.drop k).flatten.length := by
    conv => lhs; rw [e]
    rw [List.flatten_append, List.length_append]
  rw [List.length_append, h, List.length_take]
  have h2 : (gs.getD k []).length ≤ (gs.drop k).flatten.length := by
    by_cases hk : k < gs.length
    · rw [List.drop_eq_getElem_cons hk, List.flatten_cons, List.length_append]; simp [hk]
    · simp [hk]
  omega
theorem get_len (gs : List (List Nat)) (k : Nat) : (gs.getD k []).length ≤ gs.flatten.length := by
  have h := pre_sub gs k (gs.getD k []).length
  unfold pre at h
  rw [List.take_length, List.length_append] at h
  omega
theorem mem_getD (gs : List (List Nat)) (k m : Nat) (hk : k < gs.length) (hm : m < (gs.getD k []).length) : (gs.getD k []).getD m 0 ∈ gs.flatten := by
  rw [List.mem_flatten]
  refine ⟨gs.getD k [], ?_, ?_⟩
  · rw [List.getD_eq_getElem?_getD, List.getElem?_eq_getElem hk]; exact List.getElem_mem hk
  · rw [List.getD_eq_getElem?_getD (l := gs.getD k []), List.getElem?_eq_getElem hm, Option.getD_some]; exact List.getElem_mem hm

set_option maxHeartbeats 2000000 in
theorem bitsOf_groups (G : Nat) (cb : Array Value) (s : Nat) (A : Option Addr) (c : Nat) (gs : List (List Nat)) (w : World) (eg : ∀ args w, (callFunc G args).run Try.prog w = .ok (.enter G args) w)
    (hr : GRow w w.heap.size A gs) (hC : IsOne G cb s w) (hx : ∀ n ∈ gs.flatten, n < 65536) (hg : gs.length ≤ 17592186044416) (hn : gs.flatten.length ≤ 17592186044416) :
    Calls Try.prog 70 #[.slice A gs.length c, .func (.func G) #[] cb] w fun e w' => ∃ v, e = .returned v ∧ OB w (gs.flatten.map (Wv.bit s)) v w' := by
  obtain ⟨a, ca, hrow, hrows⟩ := hr
  have HR : Hid (∀ W, Below w.heap.size w W → ∀ k, k < gs.length → ∃ b o, A = some ⟨b, o, none⟩ ∧ W.cell? ⟨b, o + k, none⟩ = some (.slice (a k) (gs.getD k []).length (ca k))) := Lib.hid fun W h k hk => by
    obtain ⟨b, o, e, hb, hc⟩ := hrow (by omega)
    exact ⟨b, o, e, (h.cell (p := ⟨b, o + k, none⟩) hb).trans (hc k hk)⟩
  have HN : Hid (∀ W, Below w.heap.size w W → ∀ k, k < gs.length → ∀ m, m < (gs.getD k []).length → ∃ b o, a k = some ⟨b, o, none⟩ ∧ W.cell? ⟨b, o + m, none⟩ = some (.int .i64 (((gs.getD k []).getD m 0 : Nat) : Int)) ∧ (gs.getD k []).getD m 0 < 9223372036854775808) := Lib.hid fun W h k hk m hm => by
    obtain ⟨b, o, e, hb, hc⟩ := hrows k hk (by omega)
    refine ⟨b, o, e, (h.cell (p := ⟨b, o + m, none⟩) hb).trans (hc m hm), ?_⟩
    have := hx _ (mem_getD gs k m hk hm); omega
  have HC := Lib.hid hC
  have P0 := Lib.hid (pre_zero gs)
  have P1 := Lib.hid (pre_in gs)
  have P2 := Lib.hid (pre_next gs)
  have P3 := Lib.hid (pre_end gs)
  have P4 := Lib.hid (fun k m => Nat.le_trans (pre_sub gs k m) hn)
  have P5 := Lib.hid (fun k => Nat.le_trans (get_len gs k) hn)
  have HF : Hid (∀ v W, OB w ((pre gs gs.length 0).map (Wv.bit s)) v W → OB w (gs.flatten.map (Wv.bit s)) v W) := Lib.hid fun v W h => by rw [pre_end] at h; exact h
  generalize gs.flatten.map (Wv.bit s) = LF at *
  clear hrow hrows hx hC hn
  generalize gs.length = n at *
  go_enter Try.func70, Try.ntmps70
  go_wp2
  go_loopw [5, 12] (fun s5 t W => ∃ k : Nat, k ≤ n ∧ t = .int .i64 k ∧ OB w ((pre gs k 0).map (Wv.bit s)) s5 W) (fun _ t _ => n - (intOf t).toNat)
  case atStart => exact ⟨0, Nat.zero_le _, rfl, by rw [P0.out]; exact OB.nil w w (Below.refl _ _)⟩
  case round =>
    obtain ⟨k, hk, rfl, I⟩ := hrel
    by_cases hlt : k < n
    · obtain ⟨b, o, rfl, hc1⟩ := HR.out wr I.old k hlt
      have hlz : (k : Int) < (n : Int) := by omega
      have Q1 := Lib.hid (P1.out k)
      have Q2 := Lib.hid (P2.out k hlt)
      have Q4 := Lib.hid (P4.out k)
      have QN := Lib.hid (fun W hW m => HN.out W hW k hlt m)
      have hgl2 := P5.out k
      generalize a k = ak at *
      generalize ca k = ck at *
      generalize gs.getD k [] = gk at *
      clear HR HN P0 P1 P2 P3 P4 P5
      generalize hV : wr = V at *
      clear hV
      go_wp2
      go_loopw [5, 18] (fun s5 t W => ∃ m : Nat, m ≤ gk.length ∧ t = .int .i64 m ∧ OB w ((pre gs k m).map (Wv.bit s)) s5 W) (fun _ t _ => gk.length - (intOf t).toNat)
      case atStart => exact ⟨0, Nat.zero_le _, rfl, I⟩
      case round =>
        clear hc1 I
        obtain ⟨m, hm, rfl, I⟩ := hrel
        by_cases hlt2 : m < gk.length
        · obtain ⟨b2, o2, rfl, hc2, hx2⟩ := QN.out wr I.old m hlt2
          have hlz2 : (m : Int) < (gk.length : Int) := by omega
          have HCx := Lib.hid (fun W hW => HC.out W hW _ hx2)
          have E1 := Lib.hid (Q1.out m hlt2)
          have n1 := Q4.out m
          generalize gk.getD m 0 = x at *
          have HJ : Hid (∀ v' W', W'.ownsRow w.heap.size 4 1 v' (((pre gs k m).map (Wv.bit s)).length + 1) (((pre gs k m).map (Wv.bit s)).map Value.bool ++ [.bool (Wv.bit s x)]) → (wr.alloc (.cells #[.bool (Wv.bit s x)] 4)).grownBy W' u5.ownBlock → OB w ((pre gs k (m + 1)).map (Wv.bit s)) v' W') := Lib.hid fun v' W' h1 h2 => by
            have := (I.on ((Below.refl _ wr).alloc (Nat.le_refl _) (.cells #[.bool (Wv.bit s x)] 4))).app (Wv.bit s x) h1 h2
            rw [E1.out, List.map_append]; exact this
          have HI := Lib.hid I
          have J1 := I.on ((Below.refl _ wr).alloc (Nat.le_refl _) (.cells #[.bool (Wv.bit s x)] 4))
          have n2 : ((pre gs k m).map (Wv.bit s)).length ≤ 17592186044416 := by rw [List.length_map]; exact n1
          have hsz := I.old.size
          clear E1 n1 Q1 Q4 QN I
          have HC2 := Lib.hid (HCx.out wr HI.out.old)
          clear HCx HC
          generalize (pre gs k m).map (Wv.bit s) = L at *
          generalize Wv.bit s x = y at *
          have hmx : L.length + 1 ≤ maxLen := by unfold maxLen; omega
          go_wp2_with fail
          with_reducible refine HC2.out.mono ?_
          rintro e w' ⟨rfl, rfl⟩
          clear HC2
          go_wp2_with (at_builtin; refine wpList_app1 _ rfl _ _ 22 rfl w.heap.size 4 (.bool false) 1 Try.underlying22 infoBool rfl _ L.length (L.map Value.bool) rfl wr.heap.size (.bool y) rfl J1.own (new1 _ _ _) (by simp) rfl hmx (by omega) (by simp; omega) ?_; intro v' w2 h2 h3 h4)
          have J3 := HJ.out v' w2 h2 h3
          go_roundw
          case rel => exact ⟨m + 1, by omega, by go_num, J3⟩
          case measure => simp [intOf]; omega
        · have hmn : m = gk.length := by omega
          subst hmn
          rw [Q2.out] at I
          clear Q1 Q2 Q4 QN HC HF
          go_wp2
          go_roundw
          case rel => exact ⟨k + 1, by omega, by go_num, I⟩
          case measure => simp [intOf]; omega
    · have hkn : k = n := by omega
      subst hkn
      have HO := Lib.hid (HF.out _ _ I)
      clear HF P0 P1 P2 P3 P4 P5 HR HN I
      obtain ⟨A9, c9, rfl, _⟩ := own_slice HO.out.own
      go_wp2
      go_ret
      exact ⟨_, rfl, HO.out⟩

end Go.Proofs.Ytgnakccbkglfpaa
