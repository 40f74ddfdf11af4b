/- The walk of the law CombTells. -/
import Derived.Test.YtelapijdpcoekaaGreatYe
import Derived.Test.YtelapijdpcoekaaGreatYf
import Derived.Test.YtelapijdpcoekaaGreatYc
import Derived.Test.YtelapijdpcoekaaGreatCs0
import Derived.Test.YtelapijdpcoekaaGreatCv
import Derived.Test.YtelapijdpcoekaaGreatJj
import Derived.Test.YtelapijdpcoekaaGreatJf
namespace Go.Proofs.YtelapijdpcoekaaGreat
open Go.RowKit
attribute [local irreducible] Bt.pop Bt.popF

theorem most_all (l : List Int) : l.all (fun x => decide (x < 1024)) = decide (En.most l < 1024) := by
  induction l with
  | nil => simp [En.most]
  | cons y a ih =>
    have e : En.most (y :: a) = max y.toNat (En.most a) := rfl
    rw [List.all_cons, ih, e, Bool.eq_iff_iff]
    simp only [Bool.and_eq_true, decide_eq_true_eq]
    omega
/-- a list of signs whose first k are small -/
def ftK (l : List Int) (k : Nat) : Bool := En.good l && (l.take k).all fun x => decide (x < 1024)
theorem ftK_zero (l : List Int) : ftK l 0 = En.good l := by simp [ftK]
theorem ftK_succ (l : List Int) (k : Nat) (h : k < l.length) : ftK l (k + 1) = (ftK l k && decide (l.getD k 0 < 1024)) := by
  unfold ftK
  rw [List.take_succ_eq_append_getElem h, List.all_append, show l.getD k 0 = l[k] from by simp [h], Bool.and_assoc]
  simp
theorem ftK_end (l : List Int) : ftK l l.length = (En.good l && decide (En.most l < 1024)) := by unfold ftK; rw [List.take_length, most_all]

/-- what the law looks at: the index, the list, the signs and their copy -/
structure TS (w : World) (B : Nat) (E L S : Option Addr) (cE cL cS N M : Nat) (A A2 X : Option Addr) (cx n2 : Nat) (l s : List Int) (W : World) : Prop where
  cb : CB w B E L S cE cL cS N M l W
  row : IRow W W.heap.size A l
  sg : IRow W W.heap.size A2 s
  cp : IRow W W.heap.size X s
  hn : N ≤ 150
  len2 : n2 = s.length
  hs : n2 ≤ 17592186043904
  hcx : n2 ≤ cx
section
variable {w : World} {B : Nat} {E L S : Option Addr} {cE cL cS N M : Nat} {A A2 X : Option Addr} {cx n2 : Nat} {l s : List Int} {W W' : World}
theorem TS.on (h : TS w B E L S cE cL cS N M A A2 X cx n2 l s W) (hb : Below W.heap.size W W') : TS w B E L S cE cL cS N M A A2 X cx n2 l s W' := ⟨h.cb.on hb, h.row.on hb, h.sg.on hb, h.cp.on hb, h.hn, h.len2, h.hs, h.hcx⟩
theorem TS.find (h : TS w B E L S cE cL cS N M A A2 X cx n2 l s W) : Calls Tryz.prog 7 #[.agg #[.slice E N cE, .int .i64 N, .int .i64 10, .slice L 10 cL, .slice S M cS], .slice X n2 cx] W fun e w' => e = .returned (.agg #[.int .i64 ((En.spn l s).1 : Nat), .int .i64 ((En.spn l s).2 : Nat)]) ∧ TS w B E L S cE cL cS N M A A2 X cx n2 l s w' := by
  have l1 := h.len2
  have l2 := h.hcx
  have l3 := h.hs
  have h1 := h.cb.find X cx s h.cp (by omega) (by omega)
  rw [← l1] at h1
  exact h1.mono fun _ _ hh => ⟨hh.1, h.on hh.2⟩
theorem TS.find0 (h : TS w B E L S cE cL cS N M A A2 X cx n2 l s W) (h0 : n2 = 0) : Calls Tryz.prog 7 #[.agg #[.slice E N cE, .int .i64 N, .int .i64 10, .slice L 10 cL, .slice S M cS], .slice X n2 cx] W fun e w' => e = .returned (.agg #[.int .i64 0, .int .i64 N]) ∧ TS w B E L S cE cL cS N M A A2 X cx n2 l s w' := by
  have e : En.spn l s = (0, N) := by
    rw [List.eq_nil_of_length_eq_zero (h.len2.symm.trans h0), En.spn_nil h.cb.cmb.sg.pos, h.cb.len]
  have h1 := h.find
  rw [e] at h1
  exact h1
theorem TS.spanOf (h : TS w B E L S cE cL cS N M A A2 X cx n2 l s W) (c : Nat) : Calls Tryz.prog 8 #[.slice A N c, .slice X n2 cx] W fun e w' => e = .returned (.agg #[.int .i64 ((En.spn l s).1 : Nat), .int .i64 ((En.spn l s).2 : Nat)]) ∧ TS w B E L S cE cL cS N M A A2 X cx n2 l s w' := by
  have l1 := h.len2
  have l3 := h.hs
  have l4 := h.cb.len
  have l5 := h.hn
  have h1 := spanOf_any A X c cx l s W h.row h.cp (by omega) (by omega)
  rw [← l1, ← l4] at h1
  exact h1.mono fun _ _ hh => ⟨hh.1, h.on hh.2⟩
theorem TS.same (h : TS w B E L S cE cL cS N M A A2 X cx n2 l s W) (c : Nat) : Calls Tryz.prog 9 #[.agg #[.slice E N cE, .int .i64 N, .int .i64 10, .slice L 10 cL, .slice S M cS], .slice A N c] W fun e w' => e = .returned (.bool true) ∧ TS w B E L S cE cL cS N M A A2 X cx n2 l s w' :=
  (sameComb_any E L S A cE cL cS N M c l W h.cb.cmb h.cb.len h.cb.num h.cb.capE h.cb.capL h.row h.hn).mono fun _ _ hh => ⟨hh.1, h.on hh.2⟩
theorem TS.longer (h : TS w B E L S cE cL cS N M A A2 X cx n2 l s W) (c : Nat) (hc : N ≤ c) : Calls Tryz.prog 10 #[.agg #[.slice E N cE, .int .i64 N, .int .i64 10, .slice L 10 cL, .slice S M cS], .slice A N c, .slice X n2 cx] W fun e w' => e = .returned (.bool true) ∧ TS w B E L S cE cL cS N M A A2 X cx n2 l s w' := by
  have l1 := h.len2
  have l2 := h.hcx
  have l3 := h.hs
  have h1 := longerL_any E L S A X cE cL cS N M c cx l s W h.cb.cmb h.cb.len h.cb.num h.cb.capE h.cb.capL h.row hc h.hn h.cp (by omega) (by omega)
  rw [← l1] at h1
  exact h1.mono fun _ _ hh => ⟨hh.1, h.on hh.2⟩
theorem TS.count (h : TS w B E L S cE cL cS N M A A2 X cx n2 l s W) : Calls Tryz.prog 11 #[.agg #[.slice E N cE, .int .i64 N, .int .i64 10, .slice L 10 cL, .slice S M cS], .slice X n2 cx] W fun e w' => e = .returned (.int .i64 ((En.plc l s).length : Nat)) ∧ TS w B E L S cE cL cS N M A A2 X cx n2 l s w' := by
  have l1 := h.len2
  have l2 := h.hcx
  have l3 := h.hs
  have h1 := count_any E L S X cE cL cS N M cx l s W h.cb.cmb h.cb.len h.cb.num h.cb.capE h.cb.capL h.cp (by omega) (by omega)
  rw [← l1] at h1
  exact h1.mono fun _ _ hh => ⟨hh.1, h.on hh.2⟩
theorem TS.places (h : TS w B E L S cE cL cS N M A A2 X cx n2 l s W) : Calls Tryz.prog 14 #[.agg #[.slice E N cE, .int .i64 N, .int .i64 10, .slice L 10 cL, .slice S M cS], .slice X n2 cx] W fun e w' => ∃ Y cy, e = .returned (.slice Y (En.plc l s).length cy) ∧ IRow w' w'.heap.size Y (up (En.plc l s)) ∧ TS w B E L S cE cL cS N M A A2 X cx n2 l s w' := by
  have l1 := h.len2
  have l2 := h.hcx
  have l3 := h.hs
  have h1 := places_any E L S X cE cL cS N M cx l s W h.cb.cmb h.cb.len h.cb.num h.cb.capE h.cb.capL h.cp (by omega) (by omega)
  rw [← l1] at h1
  refine h1.mono ?_
  rintro e w' ⟨Y, cy, h2, h3, h4⟩
  rw [up_len] at h2
  exact ⟨Y, cy, h2, h3, h.on h4⟩
theorem TS.befores (h : TS w B E L S cE cL cS N M A A2 X cx n2 l s W) : Calls Tryz.prog 15 #[.agg #[.slice E N cE, .int .i64 N, .int .i64 10, .slice L 10 cL, .slice S M cS], .slice X n2 cx] W fun e w' => ∃ Y cy, e = .returned (.slice Y (En.bfr l s).length cy) ∧ IRow w' w'.heap.size Y (up (En.bfr l s)) ∧ TS w B E L S cE cL cS N M A A2 X cx n2 l s w' := by
  have l1 := h.len2
  have l2 := h.hcx
  have l3 := h.hs
  have h1 := befores_any E L S X cE cL cS N M cx l s W h.cb.cmb h.cb.len h.cb.num h.cb.capE h.cb.capL h.cp (by omega) (by omega)
  rw [← l1] at h1
  refine h1.mono ?_
  rintro e w' ⟨Y, cy, h2, h3, h4⟩
  rw [up_len] at h2
  exact ⟨Y, cy, h2, h3, h.on h4⟩
theorem TS.behinds (h : TS w B E L S cE cL cS N M A A2 X cx n2 l s W) : Calls Tryz.prog 17 #[.agg #[.slice E N cE, .int .i64 N, .int .i64 10, .slice L 10 cL, .slice S M cS], .slice X n2 cx] W fun e w' => ∃ Y cy, e = .returned (.slice Y (En.bhd l s).length cy) ∧ IRow w' w'.heap.size Y (up (En.bhd l s)) ∧ TS w B E L S cE cL cS N M A A2 X cx n2 l s w' := by
  have l1 := h.len2
  have l2 := h.hcx
  have l3 := h.hs
  have h1 := behinds_any E L S X cE cL cS N M cx l s W h.cb.cmb h.cb.len h.cb.num h.cb.capE h.cb.capL h.cp (by omega)
  rw [← l1] at h1
  refine h1.mono ?_
  rintro e w' ⟨Y, cy, h2, h3, h4⟩
  rw [up_len] at h2
  exact ⟨Y, cy, h2, h3, h.on h4⟩
theorem TS.placesOf (h : TS w B E L S cE cL cS N M A A2 X cx n2 l s W) (c c2 : Nat) : Calls Tryz.prog 12 #[.slice A N c, .slice A2 n2 c2] W fun e w' => ∃ Y cy, e = .returned (.slice Y (En.plc l s).length cy) ∧ IRow w' w'.heap.size Y (up (En.plc l s)) ∧ Below W.heap.size W w' ∧ TS w B E L S cE cL cS N M A A2 X cx n2 l s w' := by
  have l1 := h.len2
  have l3 := h.hs
  have l4 := h.cb.len
  have l5 := h.hn
  have h1 := placesOf_any A A2 c c2 l s W h.row h.sg (by omega) (by omega)
  rw [← l1, ← l4] at h1
  refine h1.mono ?_
  rintro e w' ⟨Y, cy, h2, h3, h4⟩
  rw [up_len] at h2
  exact ⟨Y, cy, h2, h3, h4, h.on h4⟩
theorem TS.beforesOf (h : TS w B E L S cE cL cS N M A A2 X cx n2 l s W) (c c2 : Nat) : Calls Tryz.prog 16 #[.slice A N c, .slice A2 n2 c2] W fun e w' => ∃ Y cy, e = .returned (.slice Y (En.bfr l s).length cy) ∧ IRow w' w'.heap.size Y (up (En.bfr l s)) ∧ Below W.heap.size W w' ∧ TS w B E L S cE cL cS N M A A2 X cx n2 l s w' := by
  have l1 := h.len2
  have l3 := h.hs
  have l4 := h.cb.len
  have l5 := h.hn
  have h1 := beforesOf_any A A2 c c2 l s W h.row h.sg h.cb.cmb.sg (by omega) (by omega)
  rw [← l1, ← l4] at h1
  refine h1.mono ?_
  rintro e w' ⟨Y, cy, h2, h3, h4⟩
  rw [up_len] at h2
  exact ⟨Y, cy, h2, h3, h4, h.on h4⟩
theorem TS.behindsOf (h : TS w B E L S cE cL cS N M A A2 X cx n2 l s W) (c c2 : Nat) : Calls Tryz.prog 18 #[.slice A N c, .slice A2 n2 c2] W fun e w' => ∃ Y cy, e = .returned (.slice Y (En.bhd l s).length cy) ∧ IRow w' w'.heap.size Y (up (En.bhd l s)) ∧ Below W.heap.size W w' ∧ TS w B E L S cE cL cS N M A A2 X cx n2 l s w' := by
  have l1 := h.len2
  have l3 := h.hs
  have l4 := h.cb.len
  have l5 := h.hn
  have h1 := behindsOf_any A A2 c c2 l s W h.row h.sg h.cb.cmb.sg (by omega) (by omega)
  rw [← l1, ← l4] at h1
  refine h1.mono ?_
  rintro e w' ⟨Y, cy, h2, h3, h4⟩
  rw [up_len] at h2
  exact ⟨Y, cy, h2, h3, h4, h.on h4⟩
theorem TS.text (h : TS w B E L S cE cL cS N M A A2 X cx n2 l s W) : Calls Tryz.prog 19 #[.agg #[.slice E N cE, .int .i64 N, .int .i64 10, .slice L 10 cL, .slice S M cS]] W fun e w' => ∃ Y cy, e = .returned (.slice Y N cy) ∧ IRow w' w'.heap.size Y l ∧ TS w B E L S cE cL cS N M A A2 X cx n2 l s w' := by
  refine (text_any E L S cE cL cS N M l W h.cb.cmb h.cb.len h.cb.num h.cb.capE h.cb.capL).mono ?_
  rintro e w' ⟨Y, cy, h2, h3, h4⟩
  rw [← h.cb.len] at h2
  exact ⟨Y, cy, h2, h3, h.on h4⟩
theorem TS.sameInts (h : TS w B E L S cE cL cS N M A A2 X cx n2 l s W) (Y Z : Option Addr) (n cy cz : Nat) (a : List Int) (hn : n = a.length) (hY : IRow W W.heap.size Y a) (hZ : IRow W W.heap.size Z a) (hb : n ≤ 9223372036854775807) : Calls Tryz.prog 13 #[.slice Y n cy, .slice Z n cz] W fun e w' => e = .returned (.bool true) ∧ TS w B E L S cE cL cS N M A A2 X cx n2 l s w' := by
  subst hn
  refine (sameInts_ints Y Z cy cz a a W hY hZ hb).mono ?_
  rintro e w' ⟨h2, q, rfl⟩
  exact ⟨by rw [h2]; simp, h.on (Below.drewN (Below.refl _ _) q)⟩
end

set_option maxRecDepth 100000 in
set_option maxHeartbeats 8000000 in
theorem combTells_any (A A2 : Option Addr) (c c2 : Nat) (l s : List Int) (w : World) (hr : IRow w w.heap.size A l) (hr2 : IRow w w.heap.size A2 s) (hcap : l.length ≤ c) (_hcap2 : s.length ≤ c2) (hn : l.length ≤ 17592186043904) (hs : s.length ≤ 17592186043904) :
    Calls Tryz.prog 3 #[.slice A l.length c, .slice A2 s.length c2] w fun e w' => e = .returned (.bool true) ∧ Below w.heap.size w w' := by
  have HI := Lib.hid (isList_any A c l w hr (by omega))
  have HW := Lib.hid (fun W => combsL_any W)
  have HMn : Hid (l.length ≤ 150 → ftK l l.length = false → ∀ A' c' W, IRow W W.heap.size A' l → l.length ≤ c' → Calls Tryz.prog 6 #[.slice A' l.length c'] W (NoComb W)) := Lib.hid fun h150 hf A' c' W hW hc => by
    by_cases hg : En.good l = true
    · rw [ftK_end, hg, Bool.true_and, decide_eq_false_iff_not] at hf
      exact combMake_out A' c' l W hW hc hg (by omega) (by omega)
    · exact combMake_no A' c' l W hW (by omega) hc (.inl (by simpa using hg))
  have HMi : Hid (l.length ≤ 150 → ftK l l.length = true → ∀ A' c' W, IRow W W.heap.size A' l → l.length ≤ c' → Calls Tryz.prog 6 #[.slice A' l.length c'] W fun e w' => ∃ E L S cE cL cS, e = .returned (.tuple #[.agg #[.slice E l.length cE, .int .i64 l.length, .int .i64 10, .slice L 10 cL, .slice S (En.most l + 2) cS], .bool true]) ∧ l.length ≤ cE ∧ 10 ≤ cL ∧ Cmb w' E L S l ∧ Below W.heap.size W w') := Lib.hid fun h150 hf A' c' W hW hc => by
    rw [ftK_end, Bool.and_eq_true, decide_eq_true_eq] at hf
    exact combMake_in A' c' l W hW hc hf.1 (by omega) hf.2
  have H0 := Lib.hid (ftK_zero l)
  have HS := Lib.hid (ftK_succ l)
  have HA : Hid (∀ W, Below w.heap.size w W → ∀ i, i < l.length → ∃ b o, A = some ⟨b, o, none⟩ ∧ W.cell? ⟨b, o + i, none⟩ = some (.int .i64 (l.getD i 0))) := Lib.hid fun W hW i hi => irow_at' (hr.on hW) i hi
  have HRA : Hid (∀ W, Below w.heap.size w W → IRow W W.heap.size A l) := Lib.hid fun W hW => hr.on hW
  have HRS : Hid (∀ W, Below w.heap.size w W → IRow W W.heap.size A2 s) := Lib.hid fun W hW => hr2.on hW
  have HRow : Hid (∀ W A', Row W W.heap.size A' l.length (fun k => .int .i64 (l.getD k 0)) → IRow W W.heap.size A' l) := Lib.hid fun _ _ h => h
  have HRow2 : Hid (∀ W A', Row W W.heap.size A' s.length (fun k => .int .i64 (s.getD k 0)) → IRow W W.heap.size A' s) := Lib.hid fun _ _ h => h
  have HRA' : Hid (∀ W, Below w.heap.size w W → Row W W.heap.size A l.length (fun k => .int .i64 (l.getD k 0))) := Lib.hid fun W hW => hr.on hW
  have HRS' : Hid (∀ W, Below w.heap.size w W → Row W W.heap.size A2 s.length (fun k => .int .i64 (s.getD k 0))) := Lib.hid fun W hW => hr2.on hW
  have HkP : Hid (l.length ≤ 150 → (En.plc l s).length ≤ 9223372036854775807) := Lib.hid fun h => Nat.le_trans (plc_le' l s) (by omega)
  have HkB : Hid (En.most l + 2 ≤ 4096 → (En.bfr l s).length ≤ 9223372036854775807) := Lib.hid fun h => Nat.le_trans (Nat.le_trans (List.length_filter_le _ _) (by simp)) (show En.most l + 1 ≤ _ by omega)
  have HkD : Hid (En.most l + 2 ≤ 4096 → (En.bhd l s).length ≤ 9223372036854775807) := Lib.hid fun h => Nat.le_trans (Nat.le_trans (List.length_filter_le _ _) (by simp)) (show En.most l + 1 ≤ _ by omega)
  generalize hg : En.good l = g at *
  generalize hN : l.length = N at *
  generalize hM : En.most l + 2 = M at *
  generalize hn2 : s.length = n2 at *
  have HN := Lib.hid hN
  have HM := Lib.hid hM
  have HN2 := Lib.hid hn2
  clear hg hN hM hn2 hr hr2
  go_enter Tryz.func3, Tryz.ntmps3
  go_wp2_with fail
  with_reducible refine HI.out.mono ?_
  rintro e w1 ⟨rfl, hb1⟩
  clear HI
  rw [← H0.out]
  go_wp2
  go_loop [5, 15] (fun s5 t => ∃ k : Nat, k ≤ N ∧ t = .int .i64 k ∧ s5 = .bool (ftK l k)) (fun _ t => N - (intOf t).toNat)
  case atStart => exact ⟨0, Nat.zero_le _, rfl, rfl⟩
  case round =>
    obtain ⟨k, hk, rfl, rfl⟩ := hrel
    by_cases hlt : k < N
    · have hlz : (k : Int) < (N : Int) := by omega
      obtain ⟨b, o, rfl, d1⟩ := HA.out w1 hb1 k hlt
      have e1 := HS.out k hlt
      generalize l.getD k 0 = x at *
      generalize hq : ftK l k = q at *
      generalize hr1 : ftK l (k + 1) = r1 at *
      have HR1 := Lib.hid hr1
      have E1 := Lib.hid e1
      clear hq hr1 e1 HW HMn HMi H0 HS HA HRA HRS HRow HRow2 HRA' HRS' HkP HkB HkD HN HM HN2
      cases q
      · go_wp2
        go_round
        case rel => exact ⟨k + 1, by omega, by go_num, by rw [HR1.out, E1.out]; simp⟩
        case measure => simp [intOf]; omega
      · by_cases hc : x < 1024
        · go_wp2
          go_round
          case rel => exact ⟨k + 1, by omega, by go_num, by rw [HR1.out, E1.out]; simp [hc]⟩
          case measure => simp [intOf]; omega
        · go_wp2
          go_round
          case rel => exact ⟨k + 1, by omega, by go_num, by rw [HR1.out, E1.out]; simp [hc]⟩
          case measure => simp [intOf]; omega
    · obtain rfl : k = N := by omega
      clear HA HS H0 hlt hk
      by_cases hlong : 150 < k
      · have hlz : (150 : Int) < (k : Int) := by omega
        clear HMn HMi HRA HRS HRow HRow2 HRA' HRS' HkP HkB HkD
        generalize ftK l k = q at *
        go_wp2_with fail
        with_reducible refine (HW.out _).mono ?_
        rintro e w2 ⟨rfl, hb2⟩
        have hold := hb1.trans (hb2.mono hb1.size)
        clear HW
        go_wp2
        go_ret
        exact ⟨rfl, hold⟩
      have hlz : ¬ ((150 : Int) < (k : Int)) := by omega
      have h150 : k ≤ 150 := by omega
      have hmx : k ≤ maxLen := by unfold maxLen; omega
      have hrA := HRA'.out w1 hb1
      have HMn1 := Lib.hid (HMn.out h150)
      have HMi1 := Lib.hid (HMi.out h150)
      have HkP1 := Lib.hid (HkP.out h150)
      clear hlong HMn HMi HRA' HkP
      generalize ftK l k = q at *
      cases q
      · have HM1 := Lib.hid (HMn1.out rfl)
        clear HMn1 HMi1 HkP1 HkB HkD HRS HRS' HRA HRow2
        go_wp2_with (at_builtin; refine wpList_copy_cap _ rfl _ _ 22 rfl 3 (.int .i64 0) 8 Tryz.underlying22 infoInt4 rfl A k c (fun k => .int .i64 (l.getD k 0)) rfl rfl hrA (fun _ _ => rfl) hmx (by omega) ?_; intro A' c' w2 hc' hr2 hb2)
        with_reducible refine (HM1.out _ _ _ (HRow.out _ _ hr2) hc').mono ?_
        rintro e w3 ⟨rfl, hb3⟩
        have hB3 := hb1.trans ((hb2.trans (hb3.mono hb2.size)).mono hb1.size)
        have hB4 := hB3.alloc hB3.size (.cells #[.slice none 0 0, .int .i64 0, .int .i64 0, .slice none 0 0, .slice none 0 0] 29)
        clear HM1 hb2 hb3 hB3 hr2 hrA
        go_wp2_with fail
        with_reducible refine (HW.out _).mono ?_
        rintro e w5 ⟨rfl, hb5⟩
        have hold := hB4.trans (hb5.mono hB4.size)
        clear HW hB4 hb5
        go_wp2
        go_ret
        exact ⟨rfl, hold⟩
      have HM1 := Lib.hid (HMi1.out rfl)
      have HPk : Hid ((En.plc l s).length ≤ 9223372036854775807) := HkP1
      clear HMn1 HMi1 HkP1
      go_wp2_with (at_builtin; refine wpList_copy_cap _ rfl _ _ 22 rfl 3 (.int .i64 0) 8 Tryz.underlying22 infoInt4 rfl A k c (fun k => .int .i64 (l.getD k 0)) rfl rfl hrA (fun _ _ => rfl) hmx (by omega) ?_; intro A' c' w2 hc' hr2 hb2)
      with_reducible refine (HM1.out _ _ _ (HRow.out _ _ hr2) hc').mono ?_
      rintro e w3 ⟨E, L, S, cE, cL, cS, rfl, hE, hL, hC, hb3⟩
      have hB3 := hb1.trans ((hb2.trans (hb3.mono hb2.size)).mono hb1.size)
      have J0 : CB w w3.heap.size E L S cE cL cS k M l (w3.alloc (.cells #[.slice E k cE, .int .i64 k, .int .i64 10, .slice L 10 cL, .slice S M cS] 29)) := CB.start hC HN.out.symm HM.out.symm hE hL hB3 29
      have hM5 : M ≤ 4096 := by have := hC.fit; have := HM.out; omega
      have hB4 := J0.old
      have hrS := HRS'.out _ hB4
      have hRA4 := HRA.out _ hB4
      have hRS4 := HRS.out _ hB4
      have HkB1 := Lib.hid (HkB.out hM5)
      have HkD1 := Lib.hid (HkD.out hM5)
      have hmx2 : n2 ≤ maxLen := by unfold maxLen; omega
      clear HM1 hb2 hb3 hB3 hr2 hrA hC hE hL HkB HkD HRS HRA HRS' HRow hM5 hB4 hmx
      rcases Nat.eq_zero_or_pos n2 with h0 | h0
      · have z1 : ((n2 : Int) == 0) = true := by simp; omega
        have z2 : ¬ ((0 : Int) < (n2 : Int)) := by omega
        have H00 := Lib.hid h0
        clear h0
        go_wp2_with (at_builtin; refine wpList_copy_cap _ rfl _ _ 22 rfl 3 (.int .i64 0) 8 Tryz.underlying22 infoInt4 rfl A2 n2 c2 (fun k => .int .i64 (s.getD k 0)) rfl rfl hrS (fun _ _ => rfl) hmx2 (by omega) ?_; intro X cx w5 hcx hX hb5; have F5 : TS w w3.heap.size E L S cE cL cS k M A A2 X cx n2 l s w5 := ⟨J0.on hb5, hRA4.on hb5, hRS4.on hb5, HRow2.out _ _ hX, h150, HN2.out.symm, hs, hcx⟩; have c0 := F5.cb.c0; have c1 := F5.cb.c1; have c2' := F5.cb.c2; have c3 := F5.cb.c3; have c4 := F5.cb.c4)
        clear J0 hrS hRA4 hRS4 hX HRow2 hb5 hmx2
        with_reducible refine (F5.find0 H00.out).mono ?_
        rintro e w6 ⟨rfl, F6⟩
        clear F5 c0 c1 c2' c3 c4
        have c0 := F6.cb.c0
        have c1 := F6.cb.c1
        have c2' := F6.cb.c2
        have c3 := F6.cb.c3
        have c4 := F6.cb.c4
        go_wp2_with fail
        with_reducible refine (F6.same c).mono ?_
        rintro e w7 ⟨rfl, F7⟩
        clear F6 c0 c1 c2' c3 c4
        have c0 := F7.cb.c0
        have c1 := F7.cb.c1
        have c2' := F7.cb.c2
        have c3 := F7.cb.c3
        have c4 := F7.cb.c4
        go_wp2_with fail
        with_reducible refine (F7.longer c hcap).mono ?_
        rintro e w8 ⟨rfl, F8⟩
        clear F7 c0 c1 c2' c3 c4
        have c0 := F8.cb.c0
        have c1 := F8.cb.c1
        have c2' := F8.cb.c2
        have c3 := F8.cb.c3
        have c4 := F8.cb.c4
        go_wp2_with fail
        with_reducible refine (F8.count).mono ?_
        rintro e w9 ⟨rfl, F9⟩
        clear F8 c0 c1 c2' c3 c4
        have c0 := F9.cb.c0
        have c1 := F9.cb.c1
        have c2' := F9.cb.c2
        have c3 := F9.cb.c3
        have c4 := F9.cb.c4
        go_wp2_with fail
        with_reducible refine (F9.placesOf c c2).mono ?_
        rintro e w10 ⟨Y0, cy0, rfl, _, _, F10⟩
        clear F9 c0 c1 c2' c3 c4
        have c0 := F10.cb.c0
        have c1 := F10.cb.c1
        have c2' := F10.cb.c2
        have c3 := F10.cb.c3
        have c4 := F10.cb.c4
        go_wp2_with fail
        with_reducible refine (F10.places).mono ?_
        rintro e w11 ⟨Y1, cy1, rfl, hY1, F11⟩
        clear F10 c0 c1 c2' c3 c4
        have c0 := F11.cb.c0
        have c1 := F11.cb.c1
        have c2' := F11.cb.c2
        have c3 := F11.cb.c3
        have c4 := F11.cb.c4
        go_wp2_with fail
        with_reducible refine (F11.placesOf c c2).mono ?_
        rintro e w12 ⟨Y2, cy2, rfl, hY2, hb2, F12⟩
        clear F11 c0 c1 c2' c3 c4
        have hY1b := hY1.on hb2
        clear hY1 hb2
        have c0 := F12.cb.c0
        have c1 := F12.cb.c1
        have c2' := F12.cb.c2
        have c3 := F12.cb.c3
        have c4 := F12.cb.c4
        go_wp2_with fail
        with_reducible refine (F12.sameInts Y1 Y2 _ cy1 cy2 (up (En.plc l s)) (up_len _).symm hY1b hY2 HPk.out).mono ?_
        rintro e w13 ⟨rfl, F13⟩
        clear F12 c0 c1 c2' c3 c4 hY1b hY2
        have c0 := F13.cb.c0
        have c1 := F13.cb.c1
        have c2' := F13.cb.c2
        have c3 := F13.cb.c3
        have c4 := F13.cb.c4
        go_wp2_with fail
        with_reducible refine (F13.befores).mono ?_
        rintro e w14 ⟨Y3, cy3, rfl, hY3, F14⟩
        clear F13 c0 c1 c2' c3 c4
        have c0 := F14.cb.c0
        have c1 := F14.cb.c1
        have c2' := F14.cb.c2
        have c3 := F14.cb.c3
        have c4 := F14.cb.c4
        go_wp2_with fail
        with_reducible refine (F14.beforesOf c c2).mono ?_
        rintro e w15 ⟨Y4, cy4, rfl, hY4, hb4, F15⟩
        clear F14 c0 c1 c2' c3 c4
        have hY3b := hY3.on hb4
        clear hY3 hb4
        have c0 := F15.cb.c0
        have c1 := F15.cb.c1
        have c2' := F15.cb.c2
        have c3 := F15.cb.c3
        have c4 := F15.cb.c4
        go_wp2_with fail
        with_reducible refine (F15.sameInts Y3 Y4 _ cy3 cy4 (up (En.bfr l s)) (up_len _).symm hY3b hY4 HkB1.out).mono ?_
        rintro e w16 ⟨rfl, F16⟩
        clear F15 c0 c1 c2' c3 c4 hY3b hY4
        have c0 := F16.cb.c0
        have c1 := F16.cb.c1
        have c2' := F16.cb.c2
        have c3 := F16.cb.c3
        have c4 := F16.cb.c4
        go_wp2_with fail
        with_reducible refine (F16.behinds).mono ?_
        rintro e w17 ⟨Y5, cy5, rfl, hY5, F17⟩
        clear F16 c0 c1 c2' c3 c4
        have c0 := F17.cb.c0
        have c1 := F17.cb.c1
        have c2' := F17.cb.c2
        have c3 := F17.cb.c3
        have c4 := F17.cb.c4
        go_wp2_with fail
        with_reducible refine (F17.behindsOf c c2).mono ?_
        rintro e w18 ⟨Y6, cy6, rfl, hY6, hb6, F18⟩
        clear F17 c0 c1 c2' c3 c4
        have hY5b := hY5.on hb6
        clear hY5 hb6
        have c0 := F18.cb.c0
        have c1 := F18.cb.c1
        have c2' := F18.cb.c2
        have c3 := F18.cb.c3
        have c4 := F18.cb.c4
        go_wp2_with fail
        with_reducible refine (F18.sameInts Y5 Y6 _ cy5 cy6 (up (En.bhd l s)) (up_len _).symm hY5b hY6 HkD1.out).mono ?_
        rintro e w19 ⟨rfl, F19⟩
        clear F18 c0 c1 c2' c3 c4 hY5b hY6
        have c0 := F19.cb.c0
        have c1 := F19.cb.c1
        have c2' := F19.cb.c2
        have c3 := F19.cb.c3
        have c4 := F19.cb.c4
        go_wp2_with fail
        with_reducible refine (F19.text).mono ?_
        rintro e w20 ⟨Y7, cy7, rfl, hY7, F20⟩
        clear F19 c0 c1 c2' c3 c4
        have c0 := F20.cb.c0
        have c1 := F20.cb.c1
        have c2' := F20.cb.c2
        have c3 := F20.cb.c3
        have c4 := F20.cb.c4
        go_wp2_with fail
        with_reducible refine (F20.sameInts Y7 A _ cy7 c l F20.cb.len hY7 F20.row (by omega)).mono ?_
        rintro e w21 ⟨rfl, F21⟩
        clear F20 c0 c1 c2' c3 c4 hY7
        have c0 := F21.cb.c0
        have c1 := F21.cb.c1
        have c2' := F21.cb.c2
        have c3 := F21.cb.c3
        have c4 := F21.cb.c4
        go_wp2_with fail
        with_reducible refine (F21.sameInts X A2 _ cx c2 s F21.len2 F21.cp F21.sg (by omega)).mono ?_
        rintro e w22 ⟨rfl, F22⟩
        clear F21 c0 c1 c2' c3 c4
        have hold := F22.cb.old
        clear F22
        go_wp2_with fail
        with_reducible refine (HW.out _).mono ?_
        rintro e wz ⟨rfl, hbz⟩
        have hold2 := hold.trans (hbz.mono hold.size)
        clear HW hold hbz
        go_wp2
        go_ret
        exact ⟨rfl, hold2⟩
      · have z1 : ((n2 : Int) == 0) = false := by simp; omega
        have z2 : (0 : Int) < (n2 : Int) := by omega
        have H00 := Lib.hid h0
        clear h0
        go_wp2_with (at_builtin; refine wpList_copy_cap _ rfl _ _ 22 rfl 3 (.int .i64 0) 8 Tryz.underlying22 infoInt4 rfl A2 n2 c2 (fun k => .int .i64 (s.getD k 0)) rfl rfl hrS (fun _ _ => rfl) hmx2 (by omega) ?_; intro X cx w5 hcx hX hb5; have F5 : TS w w3.heap.size E L S cE cL cS k M A A2 X cx n2 l s w5 := ⟨J0.on hb5, hRA4.on hb5, hRS4.on hb5, HRow2.out _ _ hX, h150, HN2.out.symm, hs, hcx⟩; have c0 := F5.cb.c0; have c1 := F5.cb.c1; have c2' := F5.cb.c2; have c3 := F5.cb.c3; have c4 := F5.cb.c4)
        clear J0 hrS hRA4 hRS4 hX HRow2 hb5 hmx2
        with_reducible refine (F5.find).mono ?_
        rintro e w6 ⟨rfl, F6⟩
        clear F5 c0 c1 c2' c3 c4
        have c0 := F6.cb.c0
        have c1 := F6.cb.c1
        have c2' := F6.cb.c2
        have c3 := F6.cb.c3
        have c4 := F6.cb.c4
        go_wp2_with fail
        with_reducible refine (F6.spanOf c).mono ?_
        rintro e w7 ⟨rfl, F7⟩
        clear F6 c0 c1 c2' c3 c4
        have c0 := F7.cb.c0
        have c1 := F7.cb.c1
        have c2' := F7.cb.c2
        have c3 := F7.cb.c3
        have c4 := F7.cb.c4
        go_wp2_with fail
        with_reducible refine (F7.same c).mono ?_
        rintro e w8 ⟨rfl, F8⟩
        clear F7 c0 c1 c2' c3 c4
        have c0 := F8.cb.c0
        have c1 := F8.cb.c1
        have c2' := F8.cb.c2
        have c3 := F8.cb.c3
        have c4 := F8.cb.c4
        go_wp2_with fail
        with_reducible refine (F8.longer c hcap).mono ?_
        rintro e w9 ⟨rfl, F9⟩
        clear F8 c0 c1 c2' c3 c4
        have c0 := F9.cb.c0
        have c1 := F9.cb.c1
        have c2' := F9.cb.c2
        have c3 := F9.cb.c3
        have c4 := F9.cb.c4
        go_wp2_with fail
        with_reducible refine (F9.count).mono ?_
        rintro e w10 ⟨rfl, F10⟩
        clear F9 c0 c1 c2' c3 c4
        have c0 := F10.cb.c0
        have c1 := F10.cb.c1
        have c2' := F10.cb.c2
        have c3 := F10.cb.c3
        have c4 := F10.cb.c4
        go_wp2_with fail
        with_reducible refine (F10.placesOf c c2).mono ?_
        rintro e w11 ⟨Y0, cy0, rfl, _, _, F11⟩
        clear F10 c0 c1 c2' c3 c4
        have c0 := F11.cb.c0
        have c1 := F11.cb.c1
        have c2' := F11.cb.c2
        have c3 := F11.cb.c3
        have c4 := F11.cb.c4
        go_wp2_with fail
        with_reducible refine (F11.places).mono ?_
        rintro e w12 ⟨Y1, cy1, rfl, hY1, F12⟩
        clear F11 c0 c1 c2' c3 c4
        have c0 := F12.cb.c0
        have c1 := F12.cb.c1
        have c2' := F12.cb.c2
        have c3 := F12.cb.c3
        have c4 := F12.cb.c4
        go_wp2_with fail
        with_reducible refine (F12.placesOf c c2).mono ?_
        rintro e w13 ⟨Y2, cy2, rfl, hY2, hb2, F13⟩
        clear F12 c0 c1 c2' c3 c4
        have hY1b := hY1.on hb2
        clear hY1 hb2
        have c0 := F13.cb.c0
        have c1 := F13.cb.c1
        have c2' := F13.cb.c2
        have c3 := F13.cb.c3
        have c4 := F13.cb.c4
        go_wp2_with fail
        with_reducible refine (F13.sameInts Y1 Y2 _ cy1 cy2 (up (En.plc l s)) (up_len _).symm hY1b hY2 HPk.out).mono ?_
        rintro e w14 ⟨rfl, F14⟩
        clear F13 c0 c1 c2' c3 c4 hY1b hY2
        have c0 := F14.cb.c0
        have c1 := F14.cb.c1
        have c2' := F14.cb.c2
        have c3 := F14.cb.c3
        have c4 := F14.cb.c4
        go_wp2_with fail
        with_reducible refine (F14.befores).mono ?_
        rintro e w15 ⟨Y3, cy3, rfl, hY3, F15⟩
        clear F14 c0 c1 c2' c3 c4
        have c0 := F15.cb.c0
        have c1 := F15.cb.c1
        have c2' := F15.cb.c2
        have c3 := F15.cb.c3
        have c4 := F15.cb.c4
        go_wp2_with fail
        with_reducible refine (F15.beforesOf c c2).mono ?_
        rintro e w16 ⟨Y4, cy4, rfl, hY4, hb4, F16⟩
        clear F15 c0 c1 c2' c3 c4
        have hY3b := hY3.on hb4
        clear hY3 hb4
        have c0 := F16.cb.c0
        have c1 := F16.cb.c1
        have c2' := F16.cb.c2
        have c3 := F16.cb.c3
        have c4 := F16.cb.c4
        go_wp2_with fail
        with_reducible refine (F16.sameInts Y3 Y4 _ cy3 cy4 (up (En.bfr l s)) (up_len _).symm hY3b hY4 HkB1.out).mono ?_
        rintro e w17 ⟨rfl, F17⟩
        clear F16 c0 c1 c2' c3 c4 hY3b hY4
        have c0 := F17.cb.c0
        have c1 := F17.cb.c1
        have c2' := F17.cb.c2
        have c3 := F17.cb.c3
        have c4 := F17.cb.c4
        go_wp2_with fail
        with_reducible refine (F17.behinds).mono ?_
        rintro e w18 ⟨Y5, cy5, rfl, hY5, F18⟩
        clear F17 c0 c1 c2' c3 c4
        have c0 := F18.cb.c0
        have c1 := F18.cb.c1
        have c2' := F18.cb.c2
        have c3 := F18.cb.c3
        have c4 := F18.cb.c4
        go_wp2_with fail
        with_reducible refine (F18.behindsOf c c2).mono ?_
        rintro e w19 ⟨Y6, cy6, rfl, hY6, hb6, F19⟩
        clear F18 c0 c1 c2' c3 c4
        have hY5b := hY5.on hb6
        clear hY5 hb6
        have c0 := F19.cb.c0
        have c1 := F19.cb.c1
        have c2' := F19.cb.c2
        have c3 := F19.cb.c3
        have c4 := F19.cb.c4
        go_wp2_with fail
        with_reducible refine (F19.sameInts Y5 Y6 _ cy5 cy6 (up (En.bhd l s)) (up_len _).symm hY5b hY6 HkD1.out).mono ?_
        rintro e w20 ⟨rfl, F20⟩
        clear F19 c0 c1 c2' c3 c4 hY5b hY6
        have c0 := F20.cb.c0
        have c1 := F20.cb.c1
        have c2' := F20.cb.c2
        have c3 := F20.cb.c3
        have c4 := F20.cb.c4
        go_wp2_with fail
        with_reducible refine (F20.text).mono ?_
        rintro e w21 ⟨Y7, cy7, rfl, hY7, F21⟩
        clear F20 c0 c1 c2' c3 c4
        have c0 := F21.cb.c0
        have c1 := F21.cb.c1
        have c2' := F21.cb.c2
        have c3 := F21.cb.c3
        have c4 := F21.cb.c4
        go_wp2_with fail
        with_reducible refine (F21.sameInts Y7 A _ cy7 c l F21.cb.len hY7 F21.row (by omega)).mono ?_
        rintro e w22 ⟨rfl, F22⟩
        clear F21 c0 c1 c2' c3 c4 hY7
        have c0 := F22.cb.c0
        have c1 := F22.cb.c1
        have c2' := F22.cb.c2
        have c3 := F22.cb.c3
        have c4 := F22.cb.c4
        go_wp2_with fail
        with_reducible refine (F22.sameInts X A2 _ cx c2 s F22.len2 F22.cp F22.sg (by omega)).mono ?_
        rintro e w23 ⟨rfl, F23⟩
        clear F22 c0 c1 c2' c3 c4
        have hold := F23.cb.old
        clear F23
        go_wp2_with fail
        with_reducible refine (HW.out _).mono ?_
        rintro e wz ⟨rfl, hbz⟩
        have hold2 := hold.trans (hbz.mono hold.size)
        clear HW hold hbz
        go_wp2
        go_ret
        exact ⟨rfl, hold2⟩

end Go.Proofs.YtelapijdpcoekaaGreat
