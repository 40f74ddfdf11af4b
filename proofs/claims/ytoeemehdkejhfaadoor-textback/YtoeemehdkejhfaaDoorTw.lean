/- The walk of the law TextBack. -/
import Derived.Test.YtoeemehdkejhfaaDoorTu
import Derived.Test.YtoeemehdkejhfaaDoorTv
import Derived.Deep.RegionHeld3
namespace Go.Proofs.YtoeemehdkejhfaaDoor
open Go.RowKit Tx

set_option maxHeartbeats 1000000 in
theorem textBack_err (l : Wd) (m : Int) (w : World) (hm : w.cell? ⟨0, 0, none⟩ = some (.int .i64 m)) (he : errB l ≠ 0) :
    Calls Tryd.prog 4 #[sv l] w fun e w' => e = .returned (.bool true) ∧ Below w.heap.size w w' := by
  have H1 : Hid (Calls Tryd.prog 5 #[sv l] w fun e w' => e = .returned (.tuple #[bookV none 0 0 none 0 0, .int .i64 (errB l)]) ∧ Below w.heap.size w w') := Lib.hid (by
    refine (read_any l m w hm).mono ?_
    rintro e w' (⟨h, _⟩ | ⟨_, h⟩)
    · exact absurd h he
    · exact h)
  have hmlt := World.block_lt_of_cell? _ _ hm
  have H2 := Lib.hid (fun W (h : Below w.heap.size w W) => readsK_any m W ((h.cell (p := ⟨0, 0, none⟩) hmlt).trans hm))
  generalize errB l = x at *
  have hne : (x != 0) = true := by simpa using he
  clear he hm hmlt
  go_enter Tryd.func4, Tryd.ntmps4
  go_wp2_with fail
  with_reducible refine H1.out.mono ?_
  rintro e w1 ⟨rfl, hb1⟩
  clear H1
  have hb2 := hb1.alloc hb1.size (.cells #[.slice none 0 0, .slice none 0 0] 25)
  go_wp2_with fail
  with_reducible refine (H2.out _ hb2).mono ?_
  rintro e w3 ⟨rfl, hb3⟩
  have hb4 := hb2.trans (hb3.mono hb2.size)
  go_wp2
  go_ret
  exact ⟨rfl, hb4⟩

theorem sv_app (a b : Wd) : Value.string ((⟨a.toArray⟩ : ByteArray) ++ (⟨b.toArray⟩ : ByteArray)) = sv (a ++ b) := by
  unfold sv
  congr 1
theorem sv_app3 (a b : Wd) : Value.string ((⟨a.toArray⟩ : ByteArray) ++ ((⟨#[32]⟩ : ByteArray) ++ (⟨b.toArray⟩ : ByteArray))) = sv (a ++ 32 :: b) := by
  unfold sv
  congr 1

/-- what the law keeps in its own block while it goes on: a book that Read has made -/
structure BI (w0 : World) (ls : List (List Wd)) (B : Nat) (A : Option Addr) (n c : Nat) (A2 : Option Addr) (n2 c2 : Nat) (w : World) : Prop where
  c0 : w.cell? ⟨B, 0, none⟩ = some (.slice A n c)
  c1 : w.cell? ⟨B, 1, none⟩ = some (.slice A2 n2 c2)
  lt : B < w.heap.size
  book : BookAt w A n c A2 n2 (bw ls) (bt ls)
  old : Below w0.heap.size w0 w
theorem BI.step {w0 : World} {ls : List (List Wd)} {B : Nat} {A : Option Addr} {n c : Nat} {A2 : Option Addr} {n2 c2 : Nat} {w w' : World} (h : BI w0 ls B A n c A2 n2 c2 w) (hb : Below w.heap.size w w') : BI w0 ls B A n c A2 n2 c2 w' :=
  ⟨(hb.cell (p := ⟨B, 0, none⟩) h.lt).trans h.c0, (hb.cell (p := ⟨B, 1, none⟩) h.lt).trans h.c1, Nat.lt_of_lt_of_le h.lt hb.size, h.book.on hb, h.old.trans (hb.mono h.old.size)⟩
theorem BI.start {w0 : World} {ls : List (List Wd)} {A : Option Addr} {n c : Nat} {A2 : Option Addr} {n2 c2 : Nat} {w : World} (h : BookAt w A n c A2 n2 (bw ls) (bt ls)) (hb : Below w0.heap.size w0 w) : BI w0 ls w.heap.size A n c A2 n2 c2 (w.alloc (.cells #[.slice A n c, .slice A2 n2 c2] 25)) :=
  ⟨by simp, by simp, by simp, h.on ((Below.refl _ _).alloc (Nat.le_refl _) _), hb.alloc hb.size _⟩

/-- two such books -/
structure P2 (w0 : World) (ls : List (List Wd)) (B : Nat) (A : Option Addr) (n c : Nat) (A2 : Option Addr) (k c2 : Nat) (B2 : Nat) (A5 : Option Addr) (c5 : Nat) (A6 : Option Addr) (c6 : Nat) (w : World) : Prop where
  a : BI w0 ls B A n c A2 k c2 w
  b : BI w0 ls B2 A5 n c5 A6 k c6 w
section
variable {w0 : World} {ls : List (List Wd)} {B : Nat} {A : Option Addr} {n c : Nat} {A2 : Option Addr} {k c2 : Nat} {B2 : Nat} {A5 : Option Addr} {c5 : Nat} {A6 : Option Addr} {c6 : Nat} {w w' : World}
theorem P2.step (h : P2 w0 ls B A n c A2 k c2 B2 A5 c5 A6 c6 w) (hb : Below w.heap.size w w') : P2 w0 ls B A n c A2 k c2 B2 A5 c5 A6 c6 w' := ⟨h.a.step hb, h.b.step hb⟩
theorem P2.drew (h : P2 w0 ls B A n c A2 k c2 B2 A5 c5 A6 c6 w) : P2 w0 ls B A n c A2 k c2 B2 A5 c5 A6 c6 w.drew := h.step (Below.refl _ _).drew
theorem P2.cells (h : P2 w0 ls B A n c A2 k c2 B2 A5 c5 A6 c6 w) : w.cell? ⟨B, 0, none⟩ = some (.slice A n c) ∧ w.cell? ⟨B, 1, none⟩ = some (.slice A2 k c2) ∧ w.cell? ⟨B2, 0, none⟩ = some (.slice A5 n c5) ∧ w.cell? ⟨B2, 1, none⟩ = some (.slice A6 k c6) :=
  ⟨h.a.c0, h.a.c1, h.b.c0, h.b.c1⟩
end

set_option maxHeartbeats 2000000 in
theorem textBack_ok (l : Wd) (m : Int) (w : World) (hm : w.cell? ⟨0, 0, none⟩ = some (.int .i64 m)) (he : errB l = 0) :
    Calls Tryd.prog 4 #[sv l] w fun e w' => e = .returned (.bool true) ∧ Below w.heap.size w w' := by
  obtain ⟨_, hF, hc⟩ := errB_ok he
  have H1 : Hid (Calls Tryd.prog 5 #[sv l] w (ReadOK l w)) := Lib.hid (by
    refine (read_any l m w hm).mono ?_
    rintro e w' (⟨_, h⟩ | ⟨h, _⟩)
    · exact h
    · exact absurd he h)
  have hmlt := World.block_lt_of_cell? _ _ hm
  have HM := Lib.hid (fun W (h : Below w.heap.size w W) => (h.cell (p := ⟨0, 0, none⟩) hmlt).trans hm)
  have hbw := bw_length (linesOf l)
  have hbt := bt_length (linesOf l)
  have htk := toks_length (linesOf l)
  unfold ReadOK at H1
  generalize linesOf l = ls at *
  have HF := Lib.hid hF
  have Hc := Lib.hid hc
  have HK := Lib.hid (backT_take (bw ls) (bt ls))
  have HKl := Lib.hid (backT_length ls hF)
  have hbtl : (bt ls).length ≤ 102 := by omega
  have hbwl : (bw ls).length ≤ 100 := by omega
  have Hbt := Lib.hid hbt
  have Hra := Lib.hid (bt_all ls)
  clear he hm hmlt hF hc hbw hbt htk
  go_enter Tryd.func4, Tryd.ntmps4
  go_wp2_with fail
  with_reducible refine H1.out.mono ?_
  clear H1
  rintro e w1 ⟨A, n, c, A2, n2, c2, rfl, hB, hb1⟩
  have J := BI.start (c2 := c2) hB hb1
  have Hn := Lib.hid hB.wlen
  have Hn2 := Lib.hid hB.tlen
  have hnb : n ≤ 100 := by rw [Hn.out]; exact hbwl
  have hn2b : n2 ≤ 102 := by rw [Hn2.out]; exact hbtl
  clear hB hb1
  go_upto_region 5 with fail
  generalize hW1 : w1.alloc _ = W1 at J ⊢
  clear hW1
  generalize w1.heap.size = B at J ⊢
  have j1 := J.c1
  have j0 := J.c0
  go_wp2_with fail
  go_loop [5, 24] (fun s5 s24 => ∃ k : Nat, s24 = .int .i64 k ∧ k ≤ n2 ∧ s5 = sv (backT (bw ls) ((bt ls).take k))) (fun _ s => n2 - (intOf s).toNat)
  case atStart => exact ⟨0, rfl, by omega, rfl⟩
  case round =>
    obtain ⟨k, rfl, hk, rfl⟩ := hrel
    by_cases hlt : k < n2
    · obtain ⟨b, o, rfl, hbb, hcT⟩ := J.book.text (by have := Hn2.out; omega)
      have hc1 : W1.cell? ⟨b, o + k, none⟩ = some (.int .i64 ((bt ls).getD k 0)) := hcT k (by have := Hn2.out; omega)
      have HK1 := Lib.hid (HK.out k (by have := Hn2.out; omega))
      have hl1 := HKl.out ((bt ls).take k)
      have hl2 : ((bt ls).take k).length ≤ k := List.length_take_le _ _
      obtain ⟨r1, r2⟩ := Hra.out k (by have := Hn2.out; omega)
      generalize (bt ls).getD k 0 = x at *
      generalize backT (bw ls) ((bt ls).take k) = tk at *
      clear hcT
      by_cases hx1 : x = 1
      · subst hx1
        go_wp2_with fail
        go_round
        case rel => exact ⟨k + 1, by go_num, by omega, by rw [HK1.out]; exact sv_app tk [10]⟩
        case measure => simp [intOf]; omega
      · have hd1 : (x == 1) = false := by simpa using hx1
        by_cases hx2 : 2 ≤ x
        · obtain ⟨p, rfl⟩ : ∃ p : Nat, x = (p : Int) + 2 := ⟨(x - 2).toNat, by omega⟩
          have hpn : p < n := by have := Hn.out; omega
          have hpn' : (p : Int) < (n : Int) := by omega
          obtain ⟨b1, o1, rfl, hbb1, hcW⟩ := J.book.words (by have := Hn.out; omega)
          have hc2 : W1.cell? ⟨b1, o1 + p, none⟩ = some (sv ((bw ls).getD p [])) := hcW p (by have := Hn.out; omega)
          have HS : Hid (signB (bw ls) ((p : Int) + 2) = 32 :: (bw ls).getD p []) := Lib.hid (by
            unfold signB
            rw [if_neg (by omega), if_pos (by have := Hn.out; omega), show ((p : Int) + 2 - 2).toNat = p from by omega])
          have hxl : ((bw ls).getD p []).length ≤ 8 := by
            have h := signB_length ls HF.out ((p : Int) + 2)
            rw [HS.out, List.length_cons] at h
            omega
          generalize (bw ls).getD p [] = x at *
          clear hcW
          have hd2 : decide ((1 : Int) < (p : Int) + 2) = true := by simp; omega
          have hd3 : decide ((p : Int) < (n : Int)) = true := by simp; omega
          go_wp2_with fail
          go_round
          case rel => exact ⟨k + 1, by go_num, by omega, by rw [HK1.out, HS.out]; exact sv_app3 tk x⟩
          case measure => simp [intOf]; omega
        · obtain rfl : x = 0 := by omega
          have HS : Hid (signB (bw ls) 0 = []) := Lib.hid (by unfold signB; rw [if_neg (by omega), if_neg (by omega)])
          go_wp2_with fail
          go_round
          case rel => exact ⟨k + 1, by go_num, by omega, by rw [HK1.out, HS.out, List.append_nil]⟩
          case measure => simp [intOf]; omega
    · obtain rfl : k = n2 := by omega
      have HT : Hid (backT (bw ls) ((bt ls).take k) = backB ls ++ [10]) := Lib.hid (by rw [Hn2.out, List.take_length, back_bt])
      have hTl : (backB ls ++ [10]).length ≤ 918 := by
        have h1 := HKl.out ((bt ls).take k)
        have h2 : ((bt ls).take k).length ≤ k := List.length_take_le _ _
        rw [HT.out] at h1
        omega
      rw [HT.out]
      have HCu := Lib.hid (back_cut HF.out)
      have HAl := Lib.hid (back_allIn ls)
      have HTo := Lib.hid (back_toks HF.out)
      have HNu := Lib.hid (back_nums HF.out)
      have HEr := Lib.hid (errB_back HF.out Hc.out)
      have HS := Lib.hid (signs_yes (bw ls) (backB ls ++ [10]) A n c A2 k c2 m W1 J.book.words Hn.out (by omega) (by omega) (HM.out _ J.old) (by rw [HCu.out.1]; exact HAl.out))
      rw [HCu.out.1, HNu.out, HTo.out] at HS
      generalize backB ls ++ [10] = tt at *
      clear HK HKl Hra HT
      go_wp2_with fail
      with_reducible refine HS.out.mono ?_
      clear HS
      rintro e w2 ⟨A4, c4, rfl, hr4, hb2⟩
      have J2 := J.step hb2
      have Hat := Lib.hid (back_at (ls := ls))
      have hr4' : Row w2 w2.heap.size A4 (toks ls ++ [none]).length (fun i => .int .i64 ((nums (findIn (bw ls)) (toks ls) ++ [1]).getD i 0)) := by
        have h := hr4
        unfold IRow at h
        have hlen : (nums (findIn (bw ls)) (toks ls) ++ [1]).length = (toks ls ++ [none]).length := by simp [nums]
        rw [hlen] at h
        exact h
      have Hr4 : Hid (Row w2 w2.heap.size A4 (toks ls ++ [none]).length (fun i => .int .i64 ((bt ls).getD i 0))) := Lib.hid (hr4'.congr fun i hi => by rw [Hat.out i (by simpa using hi)])
      have hq : (toks ls ++ [none]).length + 1 = k := by rw [Hn2.out, Hbt.out]; simp
      generalize (toks ls ++ [none]).length = q at *
      have hq1 : q + 1 ≤ k := by omega
      have hq2 : k ≤ q + 1 := by omega
      have hdq : (((q : Int) + 1) != (k : Int)) = false := by simp; omega
      clear hr4 hr4' Hat J hb2 j0 j1 hq HCu HAl HTo HNu
      have j0 := J2.c0
      have j1 := J2.c1
      have HG := Lib.hid (good_made ls HF.out Hc.out A n c A2 k c2 w2 J2.book)
      go_wp2_with fail
      with_reducible refine HG.out.mono ?_
      clear HG
      rintro e w3 ⟨rfl, hb3⟩
      have J3 := J2.step hb3
      have Hr5 := Lib.hid (Hr4.out.below hb3 |>.more hb3.size)
      clear Hr4 J2 hb3 j0 j1
      have j0 := J3.c0
      have j1 := J3.c1
      go_wp2_with fail
      go_loopw [78] (fun s wr => ∃ i d : Nat, s = .int .i64 i ∧ i ≤ q ∧ wr = w3.drewN d) (fun s _ => q - (intOf s).toNat)
      case atStart => exact ⟨0, 0, rfl, by omega, rfl⟩
      case round =>
        obtain ⟨i, d, rfl, hi, rfl⟩ := hrel
        by_cases hlt2 : i < q
        · obtain ⟨b4, o4, rfl, hb4, hc4⟩ := Hr5.out (by omega)
          obtain ⟨b5, o5, rfl, hb5, hc5⟩ := J3.book.text (by have := Hn2.out; omega)
          have e4 : w3.cell? ⟨b4, o4 + i, none⟩ = some (.int .i64 ((bt ls).getD i 0)) := hc4 i hlt2
          have e5 : w3.cell? ⟨b5, o5 + i, none⟩ = some (.int .i64 ((bt ls).getD i 0)) := hc5 i (by have := Hn2.out; omega)
          generalize (bt ls).getD i 0 = x at *
          clear hc4 hc5
          have hxx : (x != x) = false := by simp
          have i1 : (i : Int) < (q : Int) := by omega
          have i2 : (i : Int) < (k : Int) := by omega
          go_wp2_with fail
          go_quiet (fail)
          go_wp2_with fail
          go_roundw
          case rel => exact ⟨i + 1, _, by go_num, by omega, rfl⟩
          case measure => simp [intOf]; omega
        · obtain rfl : i = q := by omega
          have J4 := J3.step (Below.drewN (Below.refl _ w3) d)
          generalize w3.drewN d = w4 at *
          clear J3 j0 j1 Hr5 hdq
          have j0 := J4.c0
          have j1 := J4.c1
          by_cases h400 : 400 < tt.length
          · have hd : decide ((400 : Int) < (tt.length : Int)) = true := by simp; omega
            have HRe := Lib.hid (readsK_any m w4 (HM.out _ J4.old))
            go_wp2_with fail
            with_reducible refine HRe.out.mono ?_
            rintro e w5 ⟨rfl, hb5⟩
            have J5 := J4.step hb5
            clear J4 hb5 HRe
            go_wp2
            go_ret
            exact ⟨rfl, J5.old⟩
          · have hd : decide ((400 : Int) < (tt.length : Int)) = false := by simp; omega
            obtain ⟨he1, he2⟩ := HEr.out (by omega)
            have HRd : Hid (Calls Tryd.prog 5 #[sv tt] w4 fun e w' => ∃ A5 c5 A6 c6, e = .returned (.tuple #[bookV A5 n c5 A6 k c6, .int .i64 0]) ∧ BookAt w' A5 n c5 A6 k (bw ls) (bt ls) ∧ Below w4.heap.size w4 w') := Lib.hid (by
              refine (read_any tt m w4 (HM.out _ J4.old)).mono ?_
              rintro e w' (⟨_, A5, n5, c5, A6, n6, c6, rfl, hB5, hb5⟩ | ⟨hx, _⟩)
              · rw [he2] at hB5
                obtain rfl : n5 = n := by rw [hB5.wlen, Hn.out]
                obtain rfl : n6 = k := by rw [hB5.tlen, Hn2.out]
                exact ⟨A5, c5, A6, c6, rfl, hB5, hb5⟩
              · exact absurd he1 hx)
            clear he1 he2 HEr
            go_wp2_with fail
            with_reducible refine HRd.out.mono ?_
            clear HRd
            rintro e w5 ⟨A5, c5, A6, c6, rfl, hB5, hb5⟩
            have J5 := J4.step hb5
            have K5 := BI.start (c2 := c6) hB5 J5.old
            have J6 := J5.step ((Below.refl _ w5).alloc (Nat.le_refl _) (.cells #[.slice A5 n c5, .slice A6 k c6] 25))
            clear J4 J5 hB5 hb5 j0 j1
            go_upto_region 25 with fail
            generalize hW6 : w5.alloc _ = W6 at J6 K5 ⊢
            clear hW6
            generalize w5.heap.size = B2 at J6 K5 ⊢
            have P : P2 w ls B A n c A2 k c2 B2 A5 c5 A6 c6 W6 := ⟨J6, K5⟩
            have HJ : Hid (∀ W, P2 w ls B A n c A2 k c2 B2 A5 c5 A6 c6 W → ∀ Ax cx, (Ax = A5 ∧ cx = c5 ∨ Ax = A ∧ cx = c) → Calls Tryd.prog 15 #[.slice Ax n cx, .string ⟨#[32]⟩] W fun e w' => e = .returned (sv (Lib.join (bw ls) [32])) ∧ P2 w ls B A n c A2 k c2 B2 A5 c5 A6 c6 w') := Lib.hid fun W hP Ax cx hx => by
              rcases hx with ⟨rfl, rfl⟩ | ⟨rfl, rfl⟩
              · exact (join_any (bw ls) (bw_form HF.out) _ _ _ W hP.b.book.words hP.b.book.wlen hP.b.book.wcap (by omega)).mono fun _ _ ⟨h1, h2⟩ => ⟨h1, hP.step h2⟩
              · exact (join_any (bw ls) (bw_form HF.out) _ _ _ W hP.a.book.words hP.a.book.wlen hP.a.book.wcap (by omega)).mono fun _ _ ⟨h1, h2⟩ => ⟨h1, hP.step h2⟩
            have HRe : Hid (∀ W, P2 w ls B A n c A2 k c2 B2 A5 c5 A6 c6 W → Calls Tryd.prog 14 #[] W fun e w' => e = .returned (.bool true) ∧ P2 w ls B A n c A2 k c2 B2 A5 c5 A6 c6 w') := Lib.hid fun W hP =>
              (readsK_any m W (HM.out _ hP.a.old)).mono fun _ _ ⟨h1, h2⟩ => ⟨h1, hP.step h2⟩
            generalize Lib.join (bw ls) [32] = JN at *
            clear J6 K5 HM HF Hc Hn Hn2 Hbt
            obtain ⟨j0, j1, j2, j3⟩ := P.cells
            have P0 := P.drew
            have hkk : ((k : Int) == (k : Int)) = true := by simp
            go_region_held3 (fun w' => w'.cell? ⟨B, 0, none⟩ = some (.slice A n c) ∧ w'.cell? ⟨B, 1, none⟩ = some (.slice A2 k c2) ∧ w'.cell? ⟨B2, 0, none⟩ = some (.slice A5 n c5) ∧ w'.cell? ⟨B2, 1, none⟩ = some (.slice A6 k c6)) (first | exact ⟨j0, j1, j2, j3⟩ | go_keep)
              (first
                | (go_at_call 15; refine (HJ.out _ ?_ _ _ ?_).mono ?_; (first | assumption | exact P0); (first | exact .inl ⟨rfl, rfl⟩ | exact .inr ⟨rfl, rfl⟩); rintro e w7 ⟨rfl, P7⟩; obtain ⟨i0, i1, i2, i3⟩ := P7.cells)
                | (go_at_call 14; refine (HRe.out _ ?_).mono ?_; (first | assumption | exact P0); rintro e w8 ⟨rfl, P8⟩; obtain ⟨i0, i1, i2, i3⟩ := P8.cells))
            all_goals
              go_wp2
              go_ret
              exact ⟨rfl, P8.a.old⟩

theorem textBack_any (s : ByteArray) (m : Int) (w : World) (hm : w.cell? ⟨0, 0, none⟩ = some (.int .i64 m)) :
    Calls Tryd.prog 4 #[.string s] w fun e w' => e = .returned (.bool true) ∧ Below w.heap.size w w' := by
  have e : Value.string s = sv s.data.toList := by unfold sv; rw [toArray_data]
  rw [e]
  by_cases he : errB s.data.toList = 0
  · exact textBack_ok _ m w hm he
  · exact textBack_err _ m w hm he

end Go.Proofs.YtoeemehdkejhfaaDoor
