/- wave.kinds, for however many levels are left; Kinds. -/
import Derived.Test.YtgnakccbkglfpaaWj
namespace Go.Proofs.Ytgnakccbkglfpaa
open Go.RowKit
attribute [local irreducible] Bt.pop Bt.popF

theorem KB.here {w0 : World} {B b o s k c : Nat} {l : List Nat} {F T : Nat} {fr tu : Int} {p : Nat} {A1 A2 : Option Addr} {c1 c2 mp : Nat} {W : World} (h : KB w0 B b o s k c l F T fr tu p A1 A2 c1 c2 mp W) : KB W B b o s k c l F T fr tu p A1 A2 c1 c2 mp W :=
  ⟨h.r0, h.g0, h.g1, h.f0, h.t0, h.p0, h.b0, h.b1, h.b2, h.lv, h.made, h.big, Below.refl _ _⟩
/-- the five blocks of kinds -/
def five (w : World) (A : Option Addr) (s c : Nat) (F T : Nat) (fr tu : Int) (p : Nat) : World :=
  ((((w.alloc (.cells #[.slice A s c] 43)).alloc (.cells #[.int .i64 F, .int .i64 T] 80)).alloc (.cells #[.int .i64 fr] 3)).alloc (.cells #[.int .i64 tu] 3)).alloc (.cells #[.int .i64 p] 3)
theorem five_below (w : World) (A : Option Addr) (s c F T : Nat) (fr tu : Int) (p : Nat) : Below w.heap.size w (five w A s c F T fr tu p) :=
  (((((Below.refl _ _).alloc (Nat.le_refl _) _).alloc (by simp) _).alloc (by simp; omega) _).alloc (by simp; omega) _).alloc (by simp; omega) _
theorem five_size (w : World) (A : Option Addr) (s c F T : Nat) (fr tu : Int) (p : Nat) : (five w A s c F T fr tu p).heap.size = w.heap.size + 5 := by simp [five]
theorem five_cells (w : World) (A : Option Addr) (s c F T : Nat) (fr tu : Int) (p : Nat) :
    (five w A s c F T fr tu p).cell? ⟨w.heap.size, 0, none⟩ = some (.slice A s c) ∧ (five w A s c F T fr tu p).cell? ⟨w.heap.size + 1, 0, none⟩ = some (.int .i64 F) ∧ (five w A s c F T fr tu p).cell? ⟨w.heap.size + 1, 1, none⟩ = some (.int .i64 T) ∧
    (five w A s c F T fr tu p).cell? ⟨w.heap.size + 2, 0, none⟩ = some (.int .i64 fr) ∧ (five w A s c F T fr tu p).cell? ⟨w.heap.size + 3, 0, none⟩ = some (.int .i64 tu) ∧ (five w A s c F T fr tu p).cell? ⟨w.heap.size + 4, 0, none⟩ = some (.int .i64 p) := by
  unfold five
  have lt : ∀ (v : World) (o : Obj) (x y : Nat), x < v.heap.size → (v.alloc o).cell? ⟨x, y, none⟩ = v.cell? ⟨x, y, none⟩ := fun v o x y hx => World.cell?_alloc_lt _ _ _ hx
  generalize hv1 : w.alloc _ = v1
  have s1 : v1.heap.size = w.heap.size + 1 := by rw [← hv1]; simp
  have a1 : v1.cell? ⟨w.heap.size, 0, none⟩ = some (.slice A s c) := by rw [← hv1]; simp
  generalize hv2 : v1.alloc _ = v2
  have s2 : v2.heap.size = w.heap.size + 2 := by rw [← hv2]; simp [s1]
  have a2 : v2.cell? ⟨w.heap.size + 1, 0, none⟩ = some (.int .i64 F) := by rw [← hv2, ← s1]; simp
  have a3 : v2.cell? ⟨w.heap.size + 1, 1, none⟩ = some (.int .i64 T) := by rw [← hv2, ← s1]; simp
  generalize hv3 : v2.alloc _ = v3
  have s3 : v3.heap.size = w.heap.size + 3 := by rw [← hv3]; simp [s2]
  have a4 : v3.cell? ⟨w.heap.size + 2, 0, none⟩ = some (.int .i64 fr) := by rw [← hv3, ← s2]; simp
  generalize hv4 : v3.alloc _ = v4
  have s4 : v4.heap.size = w.heap.size + 4 := by rw [← hv4]; simp [s3]
  have a5 : v4.cell? ⟨w.heap.size + 3, 0, none⟩ = some (.int .i64 tu) := by rw [← hv4, ← s3]; simp
  refine ⟨?_, ?_, ?_, ?_, ?_, by rw [← s4]; simp⟩
  · rw [lt _ _ _ _ (by omega), ← hv4, lt _ _ _ _ (by omega), ← hv3, lt _ _ _ _ (by omega), ← hv2, lt _ _ _ _ (by omega)]; exact a1
  · rw [lt _ _ _ _ (by omega), ← hv4, lt _ _ _ _ (by omega), ← hv3, lt _ _ _ _ (by omega)]; exact a2
  · rw [lt _ _ _ _ (by omega), ← hv4, lt _ _ _ _ (by omega), ← hv3, lt _ _ _ _ (by omega)]; exact a3
  · rw [lt _ _ _ _ (by omega), ← hv4, lt _ _ _ _ (by omega)]; exact a4
  · rw [lt _ _ _ _ (by omega)]; exact a5

set_option maxHeartbeats 1000000 in
theorem kinds_none (l : List Nat) (i j s p : Nat) (A : Option Addr) (c : Nat) (fr tu : Int) (w : World) (hR : Rep l s p i j fr tu) (h : tu ≤ fr) :
    Calls Try.prog 79 #[.slice A s c, .agg #[.int .i64 (Wv.st s p l : Nat), .int .i64 (Wv.st s (p + 1) l : Nat)], .int .i64 fr, .int .i64 tu, .int .i64 p] w fun e w' => ∃ v, e = .returned v ∧ OL w (up (Wv.ks l i j s p)) v w' := by
  have HK := Lib.hid (show up (Wv.ks l i j s p) = [] by rw [Wv.ks_no l i j s p (hR.no h)]; rfl)
  have hb := five_below w A s c (Wv.st s p l) (Wv.st s (p + 1) l) fr tu p
  rw [HK.out]
  clear HK hR
  generalize Wv.st s p l = F at *
  generalize Wv.st s (p + 1) l = T at *
  unfold five at hb
  go_enter Try.func79, Try.ntmps79
  go_wp2
  go_ret
  exact ⟨_, rfl, OL.nil _ _ hb⟩

set_option maxHeartbeats 1000000 in
theorem kinds_zero (l : List Nat) (i j k : Nat) : KindsOk l i j 0 k := by
  intro p A c fr tu w hp hc hlv hR
  by_cases h : tu ≤ fr
  · exact kinds_none l i j 0 p A c fr tu w hR h
  · have HK := Lib.hid (show up (Wv.ks l i j 0 p) = [(p : Int)] by unfold Wv.ks; rw [if_pos (hR.yes rfl (by omega))]; rfl)
    have hb := five_below w A 0 c (Wv.st 0 p l) (Wv.st 0 (p + 1) l) fr tu p
    have hO := OL.one w _ p hb
    rw [five_size] at hO
    rw [HK.out]
    clear HK hR hlv hb
    generalize Wv.st 0 p l = F at *
    generalize Wv.st 0 (p + 1) l = T at *
    unfold five at hO
    go_enter Try.func79, Try.ntmps79
    go_wp2
    go_ret
    exact ⟨_, rfl, hO⟩

set_option maxHeartbeats 2000000 in
theorem kinds_step (l : List Nat) (i j s k : Nat) (IH : KindsOk l i j s (k + 1)) (hk : s + 1 + k ≤ 16) (hf : ∀ n ∈ l, n < 2 ^ (s + 1 + k)) (hs : l.length ≤ 17592186044416) : KindsOk l i j (s + 1) k := by
  intro p A c fr tu w hp hc hlv hR
  by_cases h : tu ≤ fr
  · exact kinds_none l i j (s + 1) p A c fr tu w hR h
  · obtain ⟨b, o, rfl, hblt, hlev⟩ := hlv (by omega)
    have hl := Wv.lbits_len s k l hf
    obtain ⟨A1, c1, A2, c2, q1, q2, q3, hI⟩ := hlev 0 (by omega)
    simp only [Nat.zero_mul, Nat.add_zero, Nat.sub_zero, Nat.add_sub_cancel] at q1 q2 q3 hI
    rw [hl] at q1 q2 q3
    have hb := five_below w (some ⟨b, o, none⟩) (s + 1) c (Wv.st (s + 1) p l) (Wv.st (s + 1) (p + 1) l) fr tu p
    have hsz := five_size w (some ⟨b, o, none⟩) (s + 1) c (Wv.st (s + 1) p l) (Wv.st (s + 1) (p + 1) l) fr tu p
    obtain ⟨d0, d1, d2, d3, d4, d5⟩ := five_cells w (some ⟨b, o, none⟩) (s + 1) c (Wv.st (s + 1) p l) (Wv.st (s + 1) (p + 1) l) fr tu p
    obtain ⟨V, hV⟩ : ∃ V, V = five w (some ⟨b, o, none⟩) (s + 1) c (Wv.st (s + 1) p l) (Wv.st (s + 1) (p + 1) l) fr tu p := ⟨_, rfl⟩
    rw [← hV] at hb hsz d0 d1 d2 d3 d4 d5
    have e1 : V.cell? ⟨b, o, none⟩ = some (.int .i64 l.length) := (hb.cell (p := ⟨b, o, none⟩) hblt).trans q1
    have e2 : V.cell? ⟨b, o + 1, none⟩ = some (.slice A1 (l.length / 64 + 1) c1) := (hb.cell (p := ⟨b, o + 1, none⟩) hblt).trans q2
    have e3 : V.cell? ⟨b, o + 2, none⟩ = some (.slice A2 (l.length / 64 + 1) c2) := (hb.cell (p := ⟨b, o + 2, none⟩) hblt).trans q3
    obtain ⟨V2, hV2⟩ : ∃ V2, V2 = V.alloc (.cells #[.int .i64 l.length, .slice A1 (l.length / 64 + 1) c1, .slice A2 (l.length / 64 + 1) c2] 27) := ⟨_, rfl⟩
    have hb2 : Below V.heap.size V V2 := by rw [hV2]; exact (Below.refl _ _).alloc (Nat.le_refl _) _
    have hb3 : Below w.heap.size w V2 := hb.trans (hb2.mono hb.size)
    have K0 : KB w w.heap.size b o s k c l (Wv.st (s + 1) p l) (Wv.st (s + 1) (p + 1) l) fr tu p A1 A2 c1 c2 (l.length / 64 + 1) V2 := by
      have g : ∀ x y, x < w.heap.size + 5 → V2.cell? ⟨x, y, none⟩ = V.cell? ⟨x, y, none⟩ := fun x y hx => hb2.cell (p := ⟨x, y, none⟩) (by simp; omega)
      refine ⟨(g _ _ (by omega)).trans d0, (g _ _ (by omega)).trans d1, (g _ _ (by omega)).trans d2, (g _ _ (by omega)).trans d3, (g _ _ (by omega)).trans d4, (g _ _ (by omega)).trans d5, ?_, ?_, ?_, hlv.on hb3, (hI.below hb3).more hb3.size, ?_, hb3⟩
      · rw [hV2, ← hsz]; simp
      · rw [hV2, ← hsz]; simp
      · rw [hV2, ← hsz]; simp
      · rw [hV2]; simp [hsz]
    have HC := Lib.hid (fun (one : Bool) (W : World) (hW : KB w w.heap.size b o s k c l (Wv.st (s + 1) p l) (Wv.st (s + 1) (p + 1) l) fr tu p A1 A2 c1 c2 (l.length / 64 + 1) W) => kinds1_any l i j s k IH w.heap.size b o c p fr tu A1 A2 c1 c2 one W hp hc (by omega) hR hf hs hW.here)
    have n1 := ks_len l i j s (Wv.kid p false)
    have n2 := ks_len l i j s (Wv.kid p true)
    have n3 : 2 ^ s ≤ 2 ^ 16 := Nat.pow_le_pow_right (by omega) (by omega)
    have HK := Lib.hid (show up (Wv.ks l i j (s + 1) p) = up (Wv.ks l i j s (Wv.kid p false)) ++ up (Wv.ks l i j s (Wv.kid p true)) by rw [← up_append]; rfl)
    rw [HK.out]
    rw [← up_len] at n1 n2
    have HCf := Lib.hid (HC.out false V2 K0)
    have HCt := Lib.hid (HC.out true)
    generalize up (Wv.ks l i j s (Wv.kid p false)) = L1 at *
    generalize up (Wv.ks l i j s (Wv.kid p true)) = L2 at *
    have m1 : L1.length + L2.length ≤ maxLen := by unfold maxLen; omega
    have m2 : (L1.length + L2.length) * 8 ≤ 140737488355328 := by omega
    have K1 := Lib.hid K0
    have HB3 := Lib.hid hb3
    clear HK HC K0 n1 n2 n3 hR hlv hlev IH hf q1 q2 q3 hI hl hb hb2 hb3 d1 d2
    generalize Wv.st (s + 1) p l = F at *
    generalize Wv.st (s + 1) (p + 1) l = T at *
    generalize l.length / 64 + 1 = mp at *
    have z0 : ¬ ((s : Int) + 1 = 0) := by omega
    unfold five at hV
    have HV := Lib.hid hV
    have HV2 := Lib.hid hV2
    have HSZ := Lib.hid hsz
    clear hV hV2 hsz
    go_enter Try.func79, Try.ntmps79
    go_upto_region 1 with fail
    rw [← HV.out]
    clear HV
    simp only [Nat.add_assoc, Nat.reduceAdd]
    go_upto_region 7 with fail
    rw [← HV2.out]
    rw [HSZ.out]
    clear HV2 d0 d3 d4 d5 e1 e2 e3 HSZ
    go_wp2_with fail
    with_reducible refine HCf.out.mono ?_
    rintro e w1 ⟨v1, rfl, O1⟩
    have K2 := Lib.hid (K1.out.on O1.old)
    have HCu := Lib.hid (HCt.out w1 K2.out)
    clear K1 HCf HCt
    go_wp2_with fail
    with_reducible refine HCu.out.mono ?_
    rintro e w2 ⟨v2, rfl, O2⟩
    have O1' := (O1.since HB3.out).on O2.old
    obtain ⟨A9, c9, rfl, _⟩ := own_slice O2.own
    obtain ⟨_, hr9⟩ := own_row (0 : Int) O2.own
    have hbase := O1'.old.size
    have HJ : Hid (∀ v' W', W'.ownsRow w.heap.size 3 1 v' (L1.length + L2.length) (L1.map (Value.int .i64) ++ (List.range L2.length).map (fun i => .int .i64 (L2.getD i 0))) → w2.grownBy W' v1.ownBlock → OL w (L1 ++ L2) v' W') := Lib.hid fun v' W' h1 h2 => by
      refine ⟨?_, O1'.old.grown h2 O1'.old.size (fun g hg => (O1'.own.lt g hg).1)⟩
      rw [List.length_append, List.map_append, map_range_getD L2 0]
      exact h1
    clear HCu K2 O1
    go_wp2_with (at_builtin; refine wpList_app_row _ rfl _ _ 25 rfl w.heap.size 3 (.int .i64 0) 8 Try.underlying25 infoInt4 rfl _ L1.length (L1.map (Value.int .i64)) rfl O1'.own _ L2.length c9 _ rfl hr9 (fun _ _ => rfl) m1 m2 hbase ?_; intro v' w3 h2 h3 h4; obtain ⟨A8, c8, rfl, _⟩ := own_slice h2)
    go_ret
    exact ⟨_, rfl, HJ.out _ _ h2 h3⟩

theorem kinds_all (l : List Nat) (i j : Nat) (hs : l.length ≤ 17592186044416) : ∀ s k, s + k ≤ 16 → (∀ n ∈ l, n < 2 ^ (s + k)) → KindsOk l i j s k
  | 0, k, _, _ => kinds_zero l i j k
  | s + 1, k, hk, hf => kinds_step l i j s k (kinds_all l i j hs s (k + 1) (by omega) (by rw [show s + (k + 1) = s + 1 + k from by omega]; exact hf)) hk hf hs

end Go.Proofs.Ytgnakccbkglfpaa
