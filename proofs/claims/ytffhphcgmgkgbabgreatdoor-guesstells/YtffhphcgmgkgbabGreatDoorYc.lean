/- The reference's BeforesOf, BehindsOf. -/
import Derived.Test.YtffhphcgmgkgbabGreatDoorYb
namespace Go.Proofs.YtffhphcgmgkgbabGreatDoor
open Go.RowKit
attribute [local irreducible] Bt.pop Bt.popF

/-- what stands ahead of the places, behind them -/
def bfL (l s : List Int) (k : Nat) : List Int := ((En.plc l s).take k).map fun p => l.getD (En.prv l p) 0
def bhL (l s : List Int) (k : Nat) : List Int := (((En.plc l s).take k).filter fun p => decide (p + s.length < l.length)).map fun p => l.getD (p + s.length) 0
theorem bfL_succ (l s : List Int) (k : Nat) (h : k < (En.plc l s).length) : bfL l s (k + 1) = bfL l s k ++ [l.getD (En.prv l ((En.plc l s).getD k 0)) 0] := by
  unfold bfL
  rw [List.take_succ_eq_append_getElem h, List.map_append]
  simp [h]
theorem bhL_succ (l s : List Int) (k : Nat) (h : k < (En.plc l s).length) : bhL l s (k + 1) = bhL l s k ++ if (En.plc l s).getD k 0 + s.length < l.length then [l.getD ((En.plc l s).getD k 0 + s.length) 0] else [] := by
  unfold bhL
  rw [List.take_succ_eq_append_getElem h, List.filter_append, List.map_append, show (En.plc l s).getD k 0 = (En.plc l s)[k] from by simp [h]]
  congr 1
  rw [List.filter_cons, List.filter_nil]
  by_cases hc : (En.plc l s)[k] + s.length < l.length
  · rw [if_pos (by simpa using hc), if_pos hc]; rfl
  · rw [if_neg (by simpa using hc), if_neg hc]; rfl
theorem bfL_len (l s : List Int) (k : Nat) : (bfL l s k).length ≤ k := by unfold bfL; rw [List.length_map, List.length_take]; omega
theorem bhL_len (l s : List Int) (k : Nat) : (bhL l s k).length ≤ k := by
  unfold bhL
  rw [List.length_map]
  exact Nat.le_trans (List.length_filter_le _ _) (by rw [List.length_take]; omega)
theorem up_rising {K : List Nat} (h : K.Pairwise (· < ·)) : (up K).Pairwise (· < ·) := by
  unfold up
  rw [List.pairwise_map]
  exact h.imp fun h => by omega
theorem up_mem (K : List Nat) (a : Int) : a ∈ up K ↔ ∃ v ∈ K, (v : Int) = a := by unfold up; rw [List.mem_map]
theorem bfL_mem {l : List Int} (hg : En.Sg l) (s : List Int) (a : Int) : a ∈ up (En.bfr l s) ↔ a ∈ bfL l s (En.plc l s).length := by
  unfold bfL
  rw [up_mem, List.take_length, List.mem_map]
  constructor
  · rintro ⟨v, hv, rfl⟩
    obtain ⟨p, hp, he⟩ := (En.bfr_mem l s v).1 hv
    exact ⟨p, hp, he⟩
  · rintro ⟨p, hp, he⟩
    have := hg.nn (En.prv l p)
    exact ⟨a.toNat, (En.bfr_mem l s _).2 ⟨p, hp, by omega⟩, by omega⟩
theorem bhL_mem {l : List Int} (hg : En.Sg l) (s : List Int) (a : Int) : a ∈ up (En.bhd l s) ↔ a ∈ bhL l s (En.plc l s).length := by
  unfold bhL
  rw [up_mem, List.take_length, List.mem_map]
  constructor
  · rintro ⟨v, hv, rfl⟩
    obtain ⟨p, hp, h1, he⟩ := (En.bhd_mem l s v).1 hv
    exact ⟨p, List.mem_filter.2 ⟨hp, by simpa using h1⟩, he⟩
  · rintro ⟨p, hp, he⟩
    rw [List.mem_filter, decide_eq_true_eq] at hp
    have := hg.nn (p + s.length)
    exact ⟨a.toNat, (En.bhd_mem l s _).2 ⟨p, hp.1, hp.2, by omega⟩, by omega⟩
theorem plc_get_lt (l s : List Int) (i : Nat) (hi : i < (En.plc l s).length) : (En.plc l s).getD i 0 < l.length := by
  have h1 : (En.plc l s).getD i 0 ∈ En.plc l s := by
    rw [show (En.plc l s).getD i 0 = (En.plc l s)[i] from by simp [hi]]
    exact List.getElem_mem hi
  exact ((En.plc_mem l s _).1 h1).1
theorem plc_le' (l s : List Int) : (En.plc l s).length ≤ l.length := Nat.le_trans (List.length_filter_le _ _) (by simp)
theorem up_get' (K : List Nat) (i : Nat) : (up K).getD i 0 = ((K.getD i 0 : Nat) : Int) := by
  unfold up
  simp only [List.getD_eq_getElem?_getD, List.getElem?_map]
  cases K[i]? <;> rfl
theorem prv_rem (p N : Nat) (hp : p < N) (l : List Int) (hN : l.length = N) : ((p : Int) + (N : Int) - 1) % (N : Int) = ((En.prv l p : Nat) : Int) ∧ En.prv l p < N := by
  unfold En.prv
  rw [hN]
  by_cases h0 : p = 0
  · subst h0
    rw [if_pos rfl]
    refine ⟨?_, by omega⟩
    rw [Int.emod_eq_of_lt (by omega) (by omega)]
    omega
  · rw [if_neg h0]
    refine ⟨?_, by omega⟩
    rw [show (p : Int) + (N : Int) - 1 = ((p - 1 : Nat) : Int) + (N : Int) from by omega, Int.add_emod_right, Int.emod_eq_of_lt (by omega) (by omega)]

set_option maxHeartbeats 2000000 in
theorem beforesOf_any (A A2 : Option Addr) (c c2 : Nat) (l s : List Int) (w : World) (hr : IRow w w.heap.size A l) (hr2 : IRow w w.heap.size A2 s) (hg : En.Sg l) (hn : l.length ≤ 150) (hs : s.length ≤ 17592186044416) :
    Calls Tryz.prog 48 #[.slice A l.length c, .slice A2 s.length c2] w (Ints w (up (En.bfr l s))) := by
  have HP := Lib.hid (placesOf_any A A2 c c2 l s w hr hr2 hn hs)
  have HA : Hid (∀ W, Below w.heap.size w W → ∀ i, i < l.length → ∃ b o, A = some ⟨b, o, none⟩ ∧ W.cell? ⟨b, o + i, none⟩ = some (.int .i64 (l.getD i 0))) := Lib.hid fun W hW i hi => irow_at' (hr.on hW) i hi
  have hpl := plc_le' l s
  have HRi : Hid (∀ W (Y : Option Addr) (cy : Nat), IRow W W.heap.size Y (bfL l s (En.plc l s).length) → Calls Tryz.prog 58 #[.slice Y (bfL l s (En.plc l s).length).length cy] W (Ints W (up (En.bfr l s)))) := Lib.hid fun W Y cy hY => rising_any Y cy _ _ W hY (Nat.le_trans (bfL_len _ _ _) (by omega)) (up_rising (En.bfr_rising l s)) (bfL_mem hg s)
  have HS := Lib.hid (bfL_succ l s)
  have HL := Lib.hid (bfL_len l s)
  have HG := Lib.hid (up_get' (En.plc l s))
  have HLt := Lib.hid (plc_get_lt l s)
  have HU := Lib.hid (up_len (En.plc l s))
  have HRm : Hid (∀ p, p < l.length → ((p : Int) + (l.length : Int) - 1) % (l.length : Int) = ((En.prv l p : Nat) : Int) ∧ En.prv l p < l.length) := Lib.hid fun p hp => prv_rem p l.length hp l rfl
  clear hr hr2 hg
  generalize hN : l.length = N at *
  clear hN
  generalize s.length = n2 at *
  generalize hm : (En.plc l s).length = m at *
  clear hm
  go_enter Tryz.func48, Tryz.ntmps48
  go_wp2_with fail
  with_reducible refine HP.out.mono ?_
  rintro e w1 ⟨X, cx, rfl, hX, hb1⟩
  rw [HU.out]
  clear HP
  go_wp2
  go_loopw [5, 12] (fun s5 t W => ∃ k : Nat, k ≤ m ∧ t = .int .i64 k ∧ OL w1 (bfL l s k) s5 W) (fun _ t _ => m - (intOf t).toNat)
  case atStart => exact ⟨0, Nat.zero_le _, rfl, by simpa [bfL] using OL.nil w1 w1 (Below.refl _ _)⟩
  case round =>
    obtain ⟨k, hk, rfl, J⟩ := hrel
    by_cases hlt : k < m
    · have hlz : (k : Int) < (m : Int) := by omega
      obtain ⟨b1, o1, rfl, d1⟩ := irow_at' (hX.on J.old) k (by rw [HU.out]; exact hlt)
      rw [HG.out] at d1
      have HS1 := Lib.hid (HS.out k hlt)
      have hpN := HLt.out k hlt
      generalize (En.plc l s).getD k 0 = p at *
      obtain ⟨e1, hq⟩ := HRm.out p hpN
      generalize En.prv l p = q at *
      obtain ⟨b2, o2, rfl, d2⟩ := HA.out wr (hb1.trans (J.old.mono hb1.size)) q hq
      have hl1 := HL.out k
      generalize l.getD q 0 = x at *
      generalize bfL l s k = L at *
      have J1 := J.on ((Below.refl _ _).alloc (Nat.le_refl _) (.cells #[.int .i64 x] 3))
      have hmx : L.length + 1 ≤ maxLen := by unfold maxLen; omega
      have hsz := J1.old.size
      obtain ⟨Y, cy, hy, _⟩ := own_slice J.own
      subst hy
      have e2 : ((p : Int) + (N : Int) - 1).tmod (N : Int) = (q : Int) := by rw [Int.tmod_eq_emod_of_nonneg (by omega)]; exact e1
      have hqz : (q : Int) < (N : Int) := by omega
      have hN0 : ((N : Int) == 0) = false := by simp; omega
      clear HS HL HG HLt HRm HA HRi
      go_wp2_with (at_builtin; refine wpList_app1 _ rfl _ _ 22 rfl w1.heap.size 3 (.int .i64 0) 8 Tryz.underlying22 infoInt4 rfl _ L.length (L.map (Value.int .i64)) rfl _ (.int .i64 x) rfl J1.own (new1 _ _ _) (by simp) rfl hmx (by omega) hsz ?_; intro v' w2 h2 h3 _; have J2 := J1.app x h2 h3)
      go_roundw
      case rel => exact ⟨k + 1, by omega, by go_num, by rw [HS1.out]; exact J2⟩
      case measure => simp [intOf]; omega
    · obtain rfl : k = m := by omega
      obtain ⟨Y, cy, hy, hI, hold⟩ := J.ints
      injection hy with hy
      have HR1 := Lib.hid (HRi.out wr Y cy hI)
      have hb2 := hb1.trans (hold.mono hb1.size)
      generalize (bfL l s k).length = n9 at *
      subst hy
      clear HS HL HG HLt HRm HA HRi J hI
      go_wp2_with fail
      with_reducible refine HR1.out.mono ?_
      rintro e w3 ⟨Z, cz, rfl, hZ, hb3⟩
      clear HR1
      go_wp2
      go_ret
      exact ⟨Z, cz, rfl, hZ, hb2.trans (hb3.mono hb2.size)⟩

set_option maxHeartbeats 2000000 in
theorem behindsOf_any (A A2 : Option Addr) (c c2 : Nat) (l s : List Int) (w : World) (hr : IRow w w.heap.size A l) (hr2 : IRow w w.heap.size A2 s) (hg : En.Sg l) (hn : l.length ≤ 150) (hs : s.length ≤ 17592186044416) :
    Calls Tryz.prog 46 #[.slice A l.length c, .slice A2 s.length c2] w (Ints w (up (En.bhd l s))) := by
  have HP := Lib.hid (placesOf_any A A2 c c2 l s w hr hr2 hn hs)
  have HA : Hid (∀ W, Below w.heap.size w W → ∀ i, i < l.length → ∃ b o, A = some ⟨b, o, none⟩ ∧ W.cell? ⟨b, o + i, none⟩ = some (.int .i64 (l.getD i 0))) := Lib.hid fun W hW i hi => irow_at' (hr.on hW) i hi
  have hpl := plc_le' l s
  have HRi : Hid (∀ W (Y : Option Addr) (cy : Nat), IRow W W.heap.size Y (bhL l s (En.plc l s).length) → Calls Tryz.prog 58 #[.slice Y (bhL l s (En.plc l s).length).length cy] W (Ints W (up (En.bhd l s)))) := Lib.hid fun W Y cy hY => rising_any Y cy _ _ W hY (Nat.le_trans (bhL_len _ _ _) (by omega)) (up_rising (En.bhd_rising l s)) (bhL_mem hg s)
  have HS := Lib.hid (bhL_succ l s)
  have HL := Lib.hid (bhL_len l s)
  have HG := Lib.hid (up_get' (En.plc l s))
  have HLt := Lib.hid (plc_get_lt l s)
  have HU := Lib.hid (up_len (En.plc l s))
  clear hr hr2 hg
  generalize hN : l.length = N at *
  clear hN
  generalize s.length = n2 at *
  generalize hm : (En.plc l s).length = m at *
  clear hm
  go_enter Tryz.func46, Tryz.ntmps46
  go_wp2_with fail
  with_reducible refine HP.out.mono ?_
  rintro e w1 ⟨X, cx, rfl, hX, hb1⟩
  rw [HU.out]
  clear HP
  go_wp2
  go_loopw [5, 12] (fun s5 t W => ∃ k : Nat, k ≤ m ∧ t = .int .i64 k ∧ OL w1 (bhL l s k) s5 W) (fun _ t _ => m - (intOf t).toNat)
  case atStart => exact ⟨0, Nat.zero_le _, rfl, by simpa [bhL] using OL.nil w1 w1 (Below.refl _ _)⟩
  case round =>
    obtain ⟨k, hk, rfl, J⟩ := hrel
    by_cases hlt : k < m
    · have hlz : (k : Int) < (m : Int) := by omega
      obtain ⟨b1, o1, rfl, d1⟩ := irow_at' (hX.on J.old) k (by rw [HU.out]; exact hlt)
      rw [HG.out] at d1
      have HS1 := Lib.hid (HS.out k hlt)
      have hpN := HLt.out k hlt
      generalize (En.plc l s).getD k 0 = p at *
      have hl1 := HL.out k
      by_cases hfit : p + n2 < N
      · obtain ⟨b2, o2, rfl, d2⟩ := HA.out wr (hb1.trans (J.old.mono hb1.size)) (p + n2) hfit
        have HS2 := Lib.hid (show bhL l s (k + 1) = bhL l s k ++ [l.getD (p + n2) 0] from by rw [HS1.out, if_pos hfit])
        generalize l.getD (p + n2) 0 = x at *
        generalize bhL l s k = L at *
        have J1 := J.on ((Below.refl _ _).alloc (Nat.le_refl _) (.cells #[.int .i64 x] 3))
        have hmx : L.length + 1 ≤ maxLen := by unfold maxLen; omega
        have hsz := J1.old.size
        obtain ⟨Y, cy, hy, _⟩ := own_slice J.own
        subst hy
        have z1 : (p : Int) + (n2 : Int) < (N : Int) := by omega
        have z2 : ((p : Int) + (n2 : Int)).toNat = p + n2 := by omega
        have z3 : (0 : Int) ≤ (p : Int) + (n2 : Int) := by omega
        clear HS HL HG HLt HA HRi HS1
        go_wp2_with (at_builtin; refine wpList_app1 _ rfl _ _ 22 rfl w1.heap.size 3 (.int .i64 0) 8 Tryz.underlying22 infoInt4 rfl _ L.length (L.map (Value.int .i64)) rfl _ (.int .i64 x) rfl J1.own (new1 _ _ _) (by simp) rfl hmx (by omega) hsz ?_; intro v' w2 h2 h3 _; have J2 := J1.app x h2 h3)
        go_roundw
        case rel => exact ⟨k + 1, by omega, by go_num, by rw [HS2.out]; exact J2⟩
        case measure => simp [intOf]; omega
      · have HS2 := Lib.hid (show bhL l s (k + 1) = bhL l s k from by rw [HS1.out, if_neg hfit, List.append_nil])
        have z1 : ¬ ((p : Int) + (n2 : Int) < (N : Int)) := by omega
        clear HS HL HG HLt HA HRi HS1
        go_wp2
        go_roundw
        case rel => exact ⟨k + 1, by omega, by go_num, by rw [HS2.out]; exact J⟩
        case measure => simp [intOf]; omega
    · obtain rfl : k = m := by omega
      obtain ⟨Y, cy, hy, hI, hold⟩ := J.ints
      injection hy with hy
      have HR1 := Lib.hid (HRi.out wr Y cy hI)
      have hb2 := hb1.trans (hold.mono hb1.size)
      generalize (bhL l s k).length = n9 at *
      subst hy
      clear HS HL HG HLt HA HRi J hI
      go_wp2_with fail
      with_reducible refine HR1.out.mono ?_
      rintro e w3 ⟨Z, cz, rfl, hZ, hb3⟩
      clear HR1
      go_wp2
      go_ret
      exact ⟨Z, cz, rfl, hZ, hb2.trans (hb3.mono hb2.size)⟩

end Go.Proofs.YtffhphcgmgkgbabGreatDoor
