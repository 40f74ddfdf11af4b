/- The walk of shareOut. -/
import Derived.Test.YtgnakccbkglfpaaWp
namespace Go.Proofs.Ytgnakccbkglfpaa
open Go.RowKit

/-- one list more, if it is not empty -/
def more1 (S : List (List Nat)) (L : List Nat) : List (List Nat) := S ++ (if L.length = 0 then [] else [L])
theorem share_more (s : Nat) (gs : List (List Nat)) (k : Nat) (hk : k < gs.length) : Wv.share s (gs.take (k + 1)) = more1 (more1 (Wv.share s (gs.take k)) (nz s (gs.getD k []))) (on s (gs.getD k [])) := share_take s gs k hk
theorem more1_no (S : List (List Nat)) (L : List Nat) (h : L.length = 0) : more1 S L = S := by unfold more1; rw [if_pos h, List.append_nil]
theorem more1_yes (S : List (List Nat)) (L : List Nat) (h : ¬ L.length = 0) : more1 S L = S ++ [L] := by unfold more1; rw [if_neg h]
theorem more1_len (S : List (List Nat)) (L : List Nat) : (more1 S L).length ≤ S.length + 1 := by unfold more1; split <;> simp

/-- a list in the making lies in no block of the lists' own row -/
def Off (v : Value) (v5 : Value) : Prop := ∀ g, v.ownBlock = some g → v5.ownBlock ≠ some g

theorem grow_app {w : World} {S : List (List Nat)} {xs : List Value} {v5 : Value} {W1 : World} (h : GOwn w.heap.size 25 v5 S xs W1) {V : Nat} {L : List Nat} {A : Option Addr} {n c : Nat} (hL : ON V L (.slice A n c) W1) (hV : w.heap.size ≤ V) (hoff : Off (.slice A n c) v5) {v' : Value} {W2 : World}
    (h2 : W2.ownsRow w.heap.size 25 1 v' (S.length + 1) (xs ++ [.slice A n c])) (h3 : W1.grownBy W2 v5.ownBlock) (h4 : v'.ownBlock = v5.ownBlock ∨ v'.ownBlock = some W1.heap.size) : GOwn w.heap.size 25 v' (S ++ [L]) (xs ++ [.slice A n c]) W2 := by
  obtain ⟨hn, hl⟩ := hL.lies
  subst hn
  refine h.app L A c ?_ h3 h4 h2
  rcases hl with h0 | ⟨g, rfl, hVg, hlt, hc⟩
  · exact .inl h0
  · exact .inr ⟨g, 0, rfl, Nat.le_trans hV hVg, hlt, fun e => hoff g rfl e.symm, hc⟩
theorem off_app {v v5 v' : Value} {V : Nat} {W1 : World} {L : List Nat} (ho : ON V L v W1) (hoff : Off v v5) (h4 : v'.ownBlock = v5.ownBlock ∨ v'.ownBlock = some W1.heap.size) : Off v v' := by
  intro g hg
  rcases h4 with h4 | h4
  · rw [h4]; exact hoff g hg
  · rw [h4]; intro e; injection e with e
    have := (World.ownsRow.lt ho g hg).2; omega
theorem off_new {w V W : World} {L : List Nat} {v v5 : Value} {S : List (List Nat)} {xs : List Value} (ho : ON V.heap.size L v W) (h : GOwn w.heap.size 25 v5 S xs V) : Off v v5 := by
  intro g hg e
  have h1 := (World.ownsRow.lt ho g hg).1
  have h2 := (h.own.lt g e).2
  omega
theorem ON.below {V : Nat} {L : List Nat} {v : Value} {W W' : World} (h : ON V L v W) (hb : Below W.heap.size W W') : ON V L v W' := own_below h hb
theorem ON.grown {V : Nat} {L : List Nat} {v v5 : Value} {W W' : World} {base : Nat} {n : Nat} {xs : List Value} (h : ON V L v W) (h5 : W.ownsRow base 25 1 v5 n xs) (hg : W.grownBy W' v5.ownBlock) : ON V L v W' := World.ownsRow.kept h hg (own_ne h h5 (by decide))

set_option maxHeartbeats 4000000 in
theorem shareOut_any (G : Nat) (cb : Array Value) (s : Nat) (A : Option Addr) (c : Nat) (gs : List (List Nat)) (w : World) (eg : ∀ args w, (callFunc G args).run Try.prog w = .ok (.enter G args) w)
    (hr : GRow w w.heap.size A gs) (hC : IsOne G cb s w) (hx : ∀ n ∈ gs.flatten, n < 65536) (hg : gs.length ≤ 65536) (hn : gs.flatten.length ≤ 17592186043904) :
    Calls Try.prog 71 #[.slice A gs.length c, .func (.func G) #[] cb] w fun e w' => ∃ A' c', e = .returned (.slice A' (Wv.share s gs).length c') ∧ GRowL w' (fun b => w.heap.size ≤ b) w'.heap.size A' (Wv.share s gs) ∧ Below w.heap.size w w' := by
  obtain ⟨a, ca, hrow, hrows⟩ := hr
  have HR : Hid (∀ W, Below w.heap.size w W → ∀ k, k < gs.length → ∃ b o, A = some ⟨b, o, none⟩ ∧ W.cell? ⟨b, o + k, none⟩ = some (.slice (a k) (gs.getD k []).length (ca k))) := Lib.hid fun W h k hk => by
    obtain ⟨b, o, e, hb, hc⟩ := hrow (by omega)
    exact ⟨b, o, e, (h.cell (p := ⟨b, o + k, none⟩) hb).trans (hc k hk)⟩
  have HN : Hid (∀ W, Below w.heap.size w W → ∀ k, k < gs.length → ∀ m, m < (gs.getD k []).length → ∃ b o, a k = some ⟨b, o, none⟩ ∧ W.cell? ⟨b, o + m, none⟩ = some (.int .i64 (((gs.getD k []).getD m 0 : Nat) : Int)) ∧ (gs.getD k []).getD m 0 < 9223372036854775808) := Lib.hid fun W h k hk m hm => by
    obtain ⟨b, o, e, hb, hc⟩ := hrows k hk (by omega)
    refine ⟨b, o, e, (h.cell (p := ⟨b, o + m, none⟩) hb).trans (hc m hm), ?_⟩
    have := hx _ (mem_getD gs k m hk hm); omega
  have HC := Lib.hid hC
  have P2 := Lib.hid (share_more s gs)
  have P4 := Lib.hid (fun k (hk : k < gs.length) => show (Wv.share s (gs.take k)).length ≤ 131072 by
    have h1 := share_len s (gs.take k)
    rw [List.length_take] at h1
    omega)
  have P5 := Lib.hid (fun k => Nat.le_trans (get_len gs k) hn)
  have HF : Hid (∀ v W xs, GOwn w.heap.size 25 v (Wv.share s (gs.take gs.length)) xs W → Below w.heap.size w W → ∃ A' c', v = .slice A' (Wv.share s gs).length c' ∧ GRowL W (fun b => w.heap.size ≤ b) W.heap.size A' (Wv.share s gs)) := Lib.hid fun v W xs h hb => by
    rw [List.take_length] at h
    obtain ⟨A', c', rfl, _⟩ := own_slice h.own
    exact ⟨A', c', rfl, h.row rfl⟩
  have H0 : Hid (Wv.share s (gs.take 0) = []) := Lib.hid (by rw [List.take_zero]; rfl)
  generalize Wv.share s gs = SF at *
  generalize hSS : (fun k => Wv.share s (gs.take k)) = SS at *
  have HSS := Lib.hid (fun k => show Wv.share s (gs.take k) = SS k by rw [← hSS])
  rw [HSS.out] at H0 HF
  clear hrow hrows hx hC hn hSS
  generalize gs.length = n at *
  go_enter Try.func71, Try.ntmps71
  go_wp2
  go_loopw [5, 14] (fun s5 t W => ∃ (k : Nat) (xs : List Value), k ≤ n ∧ t = .int .i64 k ∧ GOwn w.heap.size 25 s5 (SS k) xs W ∧ Below w.heap.size w W) (fun _ t _ => n - (intOf t).toNat)
  case atStart => exact ⟨0, [], Nat.zero_le _, rfl, by rw [H0.out]; exact GOwn.nil _ _ _, Below.refl _ _⟩
  case round =>
    obtain ⟨k, xs, hk, rfl, I, hbW⟩ := hrel
    by_cases hlt : k < n
    · obtain ⟨b, o, rfl, hc1⟩ := HR.out wr hbW k hlt
      have hlz : (k : Int) < (n : Int) := by omega
      have Q2 := P2.out k hlt
      rw [HSS.out, HSS.out] at Q2
      have Q2 := Lib.hid Q2
      have Q4 := P4.out k hlt
      rw [HSS.out] at Q4
      have QN := Lib.hid (fun W hW m => HN.out W hW k hlt m)
      have hgl2 := P5.out k
      have HNx := Lib.hid (fun m hm y hy => nz_snoc s (gs.getD k []) m hm y hy)
      have HNl := Lib.hid (fun m => nz_len s (gs.getD k []) m)
      have HNe := Lib.hid (show nz s ((gs.getD k []).take (gs.getD k []).length) = nz s (gs.getD k []) ∧ on s ((gs.getD k []).take (gs.getD k []).length) = on s (gs.getD k []) by rw [List.take_length]; exact ⟨rfl, rfl⟩)
      generalize a k = ak at *
      generalize ca k = ck at *
      generalize gs.getD k [] = gk at *
      generalize SS k = S0 at *
      clear HR HN P2 P4 P5 HF H0
      generalize wr = V at *
      have HG := Lib.hid I
      have HbV := Lib.hid hbW
      clear I
      go_wp2
      go_loopw [8, 9, 20] (fun s8 s9 t W => ∃ m : Nat, m ≤ gk.length ∧ t = .int .i64 m ∧ SI V (nz s (gk.take m)) (on s (gk.take m)) s8 s9 W) (fun _ _ t _ => gk.length - (intOf t).toNat)
      case atStart => exact ⟨0, Nat.zero_le _, rfl, by rw [List.take_zero]; exact SI.nil V⟩
      case round =>
        clear hc1
        obtain ⟨m, hm, rfl, I⟩ := hrel
        have hold : Below w.heap.size w wr := hbW.trans (I.n.old.mono hbW.size)
        by_cases hlt2 : m < gk.length
        · obtain ⟨b2, o2, rfl, hc2, hx2⟩ := QN.out wr hold m hlt2
          have hlz2 : (m : Int) < (gk.length : Int) := by omega
          have HC2 := Lib.hid (HC.out wr hold _ hx2)
          obtain ⟨l1, l2⟩ := HNl.out m
          have hsz := I.n.old.size
          have J1 := I.on ((Below.refl _ wr).alloc (Nat.le_refl _) (.cells #[.int .i64 ((gk.getD m 0 : Nat) : Int)] 3))
          rw [← up_len] at l1 l2
          cases hy : Wv.bit s (gk.getD m 0)
          · obtain ⟨e1, e2⟩ := HNx.out m hlt2 false hy
            rw [hy] at HC2
            rw [if_neg (by decide)] at e1 e2
            rw [List.append_nil] at e2
            have E1 := Lib.hid e1
            have E2 := Lib.hid e2
            clear e1 e2 hy HNx HNl HNe QN Q2 HC HG
            generalize gk.getD m 0 = x at *
            generalize nz s (gk.take m) = N0 at *
            generalize on s (gk.take m) = O0 at *
            have hmx : (up N0).length + 1 ≤ maxLen := by unfold maxLen; omega
            go_wp2_with fail
            with_reducible refine HC2.out.mono ?_
            rintro e w' ⟨rfl, rfl⟩
            clear HC2
            go_wp2_with (at_builtin; refine wpList_app1 _ rfl _ _ 25 rfl V.heap.size 3 (.int .i64 0) 8 Try.underlying25 infoInt4 rfl _ (up N0).length ((up N0).map (Value.int .i64)) rfl wr.heap.size (.int .i64 x) rfl J1.n.own (new1 _ _ _) (by simp) rfl hmx (by omega) (by simp; omega) ?_; intro v' w2 h2 h3 h4)
            have J3 := J1.appN x h2 h3 h4
            go_roundw
            case rel => exact ⟨m + 1, by omega, by go_num, by rw [E1.out, E2.out]; exact J3⟩
            case measure => simp [intOf]; omega
          · obtain ⟨e1, e2⟩ := HNx.out m hlt2 true hy
            rw [hy] at HC2
            rw [if_pos rfl] at e1 e2
            rw [List.append_nil] at e1
            have E1 := Lib.hid e1
            have E2 := Lib.hid e2
            clear e1 e2 hy HNx HNl HNe QN Q2 HC HG
            generalize gk.getD m 0 = x at *
            generalize nz s (gk.take m) = N0 at *
            generalize on s (gk.take m) = O0 at *
            have hmx : (up O0).length + 1 ≤ maxLen := by unfold maxLen; omega
            go_wp2_with fail
            with_reducible refine HC2.out.mono ?_
            rintro e w' ⟨rfl, rfl⟩
            clear HC2
            go_wp2_with (at_builtin; refine wpList_app1 _ rfl _ _ 25 rfl V.heap.size 3 (.int .i64 0) 8 Try.underlying25 infoInt4 rfl _ (up O0).length ((up O0).map (Value.int .i64)) rfl wr.heap.size (.int .i64 x) rfl J1.o.own (new1 _ _ _) (by simp) rfl hmx (by omega) (by simp; omega) ?_; intro v' w2 h2 h3 h4)
            have J3 := J1.appO x h2 h3 h4
            go_roundw
            case rel => exact ⟨m + 1, by omega, by go_num, by rw [E1.out, E2.out]; exact J3⟩
            case measure => simp [intOf]; omega
        · have hmn : m = gk.length := by omega
          subst hmn
          rw [HNe.out.1, HNe.out.2] at I
          have hl8 := (nz_len s gk gk.length).1
          have hl9 := (nz_len s gk gk.length).2
          rw [HNe.out.1] at hl8
          rw [HNe.out.2] at hl9
          have o8 := off_new I.n.on_ HG.out
          have o9 := off_new I.o.on_ HG.out
          have G1 := HG.out.below I.n.old
          have I8 := I.n.on_
          have I9 := I.o.on_
          clear HNx HNl HNe QN HC HG I
          generalize nz s gk = N at *
          generalize on s gk = O at *
          generalize wr = W0 at *
          obtain ⟨A8, c8, rfl, _⟩ := own_slice I8
          obtain ⟨A9, c9, rfl, _⟩ := own_slice I9
          have hbase := hold.size
          go_upto_if 38 with fail
          go_cut [5, 14] from 14 to 50 (fun s5 s14 W => s14 = .int .i64 k ∧ ∃ xs, GOwn w.heap.size 25 s5 (more1 S0 N) xs W ∧ ON V.heap.size O (.slice A9 O.length c9) W ∧ Off (.slice A9 O.length c9) s5 ∧ Below w.heap.size w W)
          case first =>
            by_cases hN : N.length = 0
            · have hz : ¬ (0 : Int) < (N.length : Int) := by omega
              have HM := Lib.hid (more1_no S0 N hN)
              clear hN
              go_wp2_with fail
              go_meet
              exact ⟨rfl, _, by rw [HM.out]; exact G1, I9, o9, hold⟩
            · have hz : (0 : Int) < (N.length : Int) := by omega
              have HM := Lib.hid (more1_yes S0 N hN)
              have hmx : S0.length + 1 ≤ maxLen := by unfold maxLen; omega
              have hb1 := (Below.refl _ W0).alloc (Nat.le_refl _) (.cells #[.slice A8 N.length c8] 25)
              have G2 := G1.below hb1
              have J8 := I8.below hb1
              have J9 := I9.below hb1
              have hold1 := hold.trans (hb1.mono hold.size)
              clear hN
              go_wp2_with (at_builtin; refine wpList_app1 _ rfl _ _ 74 rfl w.heap.size 25 (.slice none 0 0) 24 Try.underlying74 infoSl rfl _ S0.length xs rfl W0.heap.size (.slice A8 N.length c8) rfl G2.own (new1 _ _ _) (by simp) rfl hmx (by omega) (by simp; omega) ?_; intro v' w2 h2 h3 h4)
              have G3 := grow_app G2 J8 HbV.out.size o8 h2 h3 h4
              have o9' := off_app J9 o9 h4
              have ho9 := J9.grown G2.own h3
              have hold2 := hold1.grown h3 hold1.size (fun g hg => (G2.own.lt g hg).1)
              go_meet
              exact ⟨rfl, _, by rw [HM.out]; exact G3, ho9, o9', hold2⟩
          case rest =>
            clear G1 I8 I9 o8 o9 hold
            obtain ⟨rfl, xs2, G1, I9, o9, hold⟩ := hcut
            have q4 := more1_len S0 N
            generalize more1 S0 N = S1 at *
            have hbase := hold.size
            have HQ := Lib.hid Q2.out
            clear Q2
            by_cases hN : O.length = 0
            · have hz : ¬ (0 : Int) < (O.length : Int) := by omega
              have HM := Lib.hid (more1_no S1 O hN)
              rw [HM.out] at HQ
              rw [← HQ.out] at G1
              clear hN HQ HM
              go_wp2
              go_roundw
              case rel => exact ⟨k + 1, _, by omega, by go_num, G1, hold⟩
              case measure => simp [intOf]; omega
            · have hz : (0 : Int) < (O.length : Int) := by omega
              have HM := Lib.hid (more1_yes S1 O hN)
              have hmx : S1.length + 1 ≤ maxLen := by unfold maxLen; omega
              have hb1 := (Below.refl _ wc).alloc (Nat.le_refl _) (.cells #[.slice A9 O.length c9] 25)
              have G2 := G1.below hb1
              have J9 := I9.below hb1
              have hold1 := hold.trans (hb1.mono hold.size)
              clear hN
              go_wp2_with (at_builtin; refine wpList_app1 _ rfl _ _ 74 rfl w.heap.size 25 (.slice none 0 0) 24 Try.underlying74 infoSl rfl _ S1.length xs2 rfl wc.heap.size (.slice A9 O.length c9) rfl G2.own (new1 _ _ _) (by simp) rfl hmx (by omega) (by simp; omega) ?_; intro v' w2 h2 h3 h4)
              have G3 := grow_app G2 J9 HbV.out.size o9 h2 h3 h4
              have hold2 := hold1.grown h3 hold1.size (fun g hg => (G2.own.lt g hg).1)
              rw [← HM.out, ← HQ.out] at G3
              go_roundw
              case rel => exact ⟨k + 1, _, by omega, by go_num, G3, hold2⟩
              case measure => simp [intOf]; omega
    · have hkn : k = n := by omega
      subst hkn
      obtain ⟨A9, c9, rfl, hG⟩ := HF.out _ _ _ I hbW
      have HG := Lib.hid hG
      clear HF P2 P4 P5 HR HN I hG HSS H0
      go_wp2
      go_ret
      exact ⟨A9, c9, rfl, HG.out, hbW⟩

end Go.Proofs.Ytgnakccbkglfpaa
