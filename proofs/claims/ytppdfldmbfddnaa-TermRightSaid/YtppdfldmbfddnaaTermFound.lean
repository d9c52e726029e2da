/-
  The walk of the law TermFound: a term that was put is found by its tag, also behind others that are put; of terms that are right unlike ones have unlike tags; what is put again alters nothing; they stay right. No conditions.
-/
import Derived.Test.YtppdfldmbfddnaaTermRight
namespace Go.Proofs.Ytppdfldmbfddnaa
open Go.RowKit
set_option linter.unusedSimpArgs false
set_option linter.unusedVariables false

theorem found_tag (us : List Tm) (x y : Tm) (hx : x ∈ us) (hl : us.length ≤ 100000000) : tagT us x = tagT us y ↔ x = y := by
  constructor
  · intro h
    obtain ⟨m, hm⟩ := putT_pre us y
    have e1 : tagT (putT us y) x = tagT us x := by rw [hm]; exact tagT_app us m x hx
    have hx' : x ∈ putT us y := by rw [hm]; simp [hx]
    exact tagT_inj (putT us y) x y hx' (putT_mem us y) (by have := (putT_length us y).2; omega) (by rw [e1, ← tagT_put]; exact h)
  · intro h
    rw [h]

/-- What is known of the terms in the loop. -/
def FoundIs (M : List Tm) (x : Tm) (T : List UInt8) (r : Bool) (cs : List Tm) : Prop := x ∈ cs ∧ tagT cs x = T ∧ (r = true → rightT cs = true) ∧ lenT cs
theorem FoundIs.first (M : List Tm) (k m : List UInt8) (h : lenT M) (hk : k.length ≤ 1000000000) (hm : m.length ≤ 1000000000) : FoundIs M (k, m) (tagT M (k, m)) (rightT M) (putT M (k, m)) := ⟨putT_mem M _, (tagT_put M _).symm, putT_right M _, h.put hk hm⟩
theorem FoundIs.put {M : List Tm} {x : Tm} {T : List UInt8} {r : Bool} {cs : List Tm} (h : FoundIs M x T r cs) (yk ym : List UInt8) (hk : yk.length ≤ 1000000000) (hm : ym.length ≤ 1000000000) : FoundIs M x T r (putT cs (yk, ym)) := by
  obtain ⟨h1, h2, h3, h4⟩ := h
  obtain ⟨y, hy⟩ : ∃ y, y = (yk, ym) := ⟨_, rfl⟩
  have h5 := h4.put hk hm
  rw [← hy] at h5 ⊢
  clear hy
  obtain ⟨m, hm⟩ := putT_pre cs y
  refine ⟨by rw [hm]; simp [h1], by rw [hm, tagT_app cs m x h1]; exact h2, fun hr => putT_right cs y (h3 hr), h5⟩
theorem FoundIs.tag {M : List Tm} {k m : List UInt8} {T : List UInt8} {r : Bool} {cs : List Tm} (h : FoundIs M (k, m) T r cs) (l : List UInt8) (hl : cs.length ≤ 100000000) : decide (T = tagT cs (k, l)) = decide (l = m) := by
  rw [← h.2.1]
  have := found_tag cs (k, m) (k, l) h.1 hl
  by_cases e : l = m
  · subst e
    simp
  · have : tagT cs (k, m) ≠ tagT cs (k, l) := fun q => e (Prod.mk.inj (this.1 q)).2.symm
    simp [this, e]

def FoundRel (ps : List Part) (M : List Tm) (x : Tm) (T : List UInt8) (r : Bool) (w : World) (v i : Value) (wr : World) : Prop :=
  ∃ (k : Nat) (us : List TD) (p : Nat) (A : Option Addr) (c : Nat), k ≤ ps.length ∧ i = .int .i64 (k : Int) ∧ v = .slice A p c ∧ Hid (us.length = p) ∧ p ≤ c ∧ p ≤ 401 + k ∧ RdT wr A us ∧ okT wr us ∧ Hid (FoundIs M x T r (conT us)) ∧ Below w.heap.size w wr

theorem cut_term (A : Option Addr) (n cap k : Nat) (hk : k ≤ cap) (w : World) :
    (Instr.slice 22 (.slice A n cap) none (some (.int .i64 (k : Int))) none).run Try.prog w = .ok (.slice A k cap) w := by
  have ht' : Try.prog.underlying 22 = some (.slice (Try.prog.elem 22)) := by simp [Program.elem, Try.underlying22]
  have he : Try.prog.elem 22 = 29 := by simp [Program.elem, Try.underlying22]
  have hz : ∀ w, (sizeOf 29).run Try.prog w = .ok 2 w := fun _ => by kernel_rfl
  have e2 : (if cap = 0 then A else A.map (·.add 0)) = A := by
    split
    · rfl
    · cases A <;> simp [Addr.add]
  rw [run_slice_h w 22 A n cap ht' .i64 (k : Int) (by omega) (by omega), he, hz]
  simp only [Result.andThen, sliced, Nat.zero_mul, Nat.sub_zero, Int.toNat_natCast, e2]

set_option maxRecDepth 100000 in
set_option maxHeartbeats 2000000 in
theorem termfound_core (ts : List TD) (key msg : List UInt8) (ps : List Part) (p n m : Nat) (A B C D : Option Addr) (c d e f : Nat) (w : World) (HP : Hid (ts.length = p)) (HN : Hid (key.length = n)) (HM : Hid (msg.length = m)) (ht : inT w A ts) (hk : Rd vB w B key) (hm : Rd vB w C msg)
    (hps : Rd vPart w D ps) (hpo : ∀ q ∈ ps, Rd vB w q.A q.l) (hpm : ∀ q ∈ ps, q.l.length ≤ 9223372036854775807) (hpc : p ≤ c) (hn : n ≤ 3000) (hmm : m ≤ 3000) (hq : ps.length ≤ 20) (HS : Hid (shortT (conT ts) = true)) :
    Calls Try.prog 4 #[.slice A p c, .slice B n d, .slice C m e, .slice D ps.length f] w fun e w' => e = .returned (.bool true) ∧ Below w.heap.size w w' := by
  have hp : p ≤ 400 := by
    have := HS.out
    unfold shortT at this
    rw [decide_eq_true_eq, conT_length, HP.out] at this
    exact this.1
  have HPO := Lib.hid hpo
  have HPM := Lib.hid hpm
  clear hpo hpm
  have g1 : decide ((3000 : Int) < (n : Int)) = false := by simp; omega
  have g2 : decide ((3000 : Int) < (m : Int)) = false := by simp; omega
  have g3 : decide ((20 : Int) < (ps.length : Int)) = false := by simp; omega
  have n1 : ¬ 3000 < n := by omega
  have n2 : ¬ 3000 < m := by omega
  have n3 : ¬ 20 < ps.length := by omega
  obtain ⟨r, hr⟩ : ∃ r, rightT (conT ts) = r := ⟨_, rfl⟩
  have HR := Lib.hid hr
  obtain ⟨T, hT⟩ : ∃ T, tagT (conT ts) (key, msg) = T := ⟨_, rfl⟩
  have HT := Lib.hid hT
  have hT8 : T.length = 8 := by rw [← hT]; rfl
  have HT8 := Lib.hid hT8
  have HF0 : Hid (FoundIs (conT ts) (key, msg) T r (putT (conT ts) (key, msg))) := by rw [← hr, ← hT]; exact FoundIs.first _ _ _ (lenT.short HS.out) (by have := HN.out; omega) (by have := HM.out; omega)
  clear hr hT hT8
  go_enter Try.func4, Try.ntmps4
  go_wp2_with fail
  refine (awake5_any _).mono ?_
  rintro e' w1 ⟨rfl, hB⟩
  go_wp2_with fail
  refine (refshort_any ts p A c _ HP (ht.1.keep hB) ht.2.2 (by omega)).mono ?_
  rintro e' w1 ⟨rfl, rfl⟩
  rw [HS.out]
  go_wp2_with fail
  clear g1 g2 g3 n1 n2 n3
  replace ht := ht.keep hB
  replace hk := hk.keep hB
  replace hm := hm.keep hB
  refine (right_anyT ts p A c _ HP (Lib.hid (lenT.short HS.out)) ht.1 ht.2.1 (by omega) hpc).mono ?_
  rintro e' w2 ⟨rfl, hb⟩
  rw [HR.out]
  replace ht := ht.keep hb
  replace hk := hk.keep hb
  replace hm := hm.keep hb
  replace hB := below_step hB hb
  clear hb
  go_wp2_with fail
  refine (put_anyT ts key msg p n m A B C c d e _ HP HN HM (Lib.hid (lenT.short HS.out)) ht.1 ht.2.1 hk hm (by omega) hpc (by omega) (by omega)).mono ?_
  rintro e' w3 ⟨us1, p1, A1, c1, tA1, tc1, rfl, HP1, hc1, htc1, ht1, hok1, HC1, hg1, hb⟩
  rw [HT.out] at hg1
  replace ht := ht.keep hb
  replace hk := hk.keep hb
  replace hm := hm.keep hb
  replace hB := below_step hB hb
  clear hb
  have hF1 : FoundIs (conT ts) (key, msg) T r (conT us1) := by rw [HC1.out]; exact HF0.out
  have HF1 := Lib.hid hF1
  clear hF1 HF0
  have hp1 : p ≤ p1 ∧ p1 ≤ 401 := by
    have h1 := (putT_length (conT ts) (key, msg)).2
    have h2 := (putT_length (conT ts) (key, msg)).1
    rw [← HC1.out, conT_length, conT_length, HP.out, HP1.out] at h1 h2
    omega
  have HPre : Hid (conT (us1.take p) = conT ts) := by
    obtain ⟨q, hq⟩ := putT_pre (conT ts) (key, msg)
    unfold Hid
    have h0 : conT (us1.take p) = (conT us1).take p := by simp [conT]
    rw [h0, HC1.out, hq, List.take_left' (by rw [conT_length, HP.out])]
  go_wp2_with fail
  refine (of_anyT us1 T p1 8 A1 tA1 c1 tc1 _ HP1 HT8 (Lib.hid HF1.out.2.2.2) ht1 hok1 hg1 (by omega) (by omega)).mono ?_
  rintro e' w4 ⟨x, u, rfl, hx, HO1, hb⟩
  have hO : ofT (conT us1) T = ((key, msg), 0) := by
    rw [← HF1.out.2.1]
    exact ofT_tag _ _ HF1.out.1 (by rw [conT_length, HP1.out]; omega)
  have hO2 := HO1.out
  rw [hO] at hO2
  injection hO2 with hxc hu
  subst hu
  replace ht := ht.keep hb
  replace hk := hk.keep hb
  replace hm := hm.keep hb
  replace ht1 := ht1.keep hb
  replace hok1 := hok1.keep hb
  replace hg1 := hg1.keep hb
  replace hB := below_step hB hb
  clear hb HO1 hO
  obtain ⟨xkA, xkc, xk, xmA, xmc, xm⟩ := x
  injection hxc with hxk hxm
  dsimp only at hxk hxm
  subst hxk hxm
  obtain ⟨_, _, hxk, hxm⟩ := hx
  dsimp only at hxk hxm
  unfold TD.at0 TD.at1
  dsimp only
  have hR0 : Row (w4.alloc (.cells #[.slice none 0 0, .slice none 0 0] 29)) w4.heap.size 29 [.slice none 0 0, .slice none 0 0] := Row.new w4 _ _ _ rfl
  go_upto_region 8 with (refine wpList_store_row rfl 29 (.tmp 12) (.tmp 55) rfl w4.heap.size rfl [.slice xkA xk.length xkc, .slice xmA xm.length xmc] rfl _ _ hR0 (by exact size_term) rfl (one_two _ _ rfl rfl) ?_)
  have hR1 := hR0.setRow [.slice xkA xk.length xkc, .slice xmA xm.length xmc]
  have hbn : Below w4.heap.size w4 ((w4.alloc (.cells #[.slice none 0 0, .slice none 0 0] 29)).setRow w4.heap.size [.slice xkA xk.length xkc, .slice xmA xm.length xmc].toArray) := below_setRow (below_new (Below.refl _ _) _) (Nat.le_refl _) _
  generalize (w4.alloc (.cells #[.slice none 0 0, .slice none 0 0] 29)).setRow w4.heap.size [.slice xkA xk.length xkc, .slice xmA xm.length xmc].toArray = w5 at hR1 hbn ⊢
  replace ht := ht.keep hbn
  replace hk := hk.keep hbn
  replace hm := hm.keep hbn
  replace ht1 := ht1.keep hbn
  replace hok1 := hok1.keep hbn
  replace hg1 := hg1.keep hbn
  replace hxk := hxk.keep hbn
  replace hxm := hxm.keep hbn
  replace hB := below_step hB hbn
  clear hbn hR0
  have k0 : w5.cell? ⟨w4.heap.size, 0, none⟩ = some (.slice xkA xk.length xkc) := hR1.cell rfl
  have k1 : w5.cell? ⟨w4.heap.size, 1, none⟩ = some (.slice xmA xm.length xmc) := hR1.cell rfl
  clear hR1
  generalize w4.heap.size = g5 at k0 k1 ⊢
  have hs0 : ∀ W, Below w5.heap.size w5 W → (convert 23 9 (.slice xkA xk.length xkc)).run Try.prog W = .ok (.string (strL xk)) W := run_str_later Try.underlying23 Try.underlying5 Try.underlying9 hxk
  have hs1 : ∀ W, Below w5.heap.size w5 W → (convert 23 9 (.slice xmA xm.length xmc)).run Try.prog W = .ok (.string (strL xm)) W := run_str_later Try.underlying23 Try.underlying5 Try.underlying9 hxm
  have hs2 : ∀ W, Below w5.heap.size w5 W → (convert 23 9 (.slice B n d)).run Try.prog W = .ok (.string (strL xk)) W := by rw [← HN.out]; exact run_str_later Try.underlying23 Try.underlying5 Try.underlying9 hk
  have hs3 : ∀ W, Below w5.heap.size w5 W → (convert 23 9 (.slice C m e)).run Try.prog W = .ok (.string (strL xm)) W := by rw [← HM.out]; exact run_str_later Try.underlying23 Try.underlying5 Try.underlying9 hm
  clear hxk hxm
  have hsl := cut_term A1 p1 c1 p (by omega)
  have hle : ¬ p1 < p := by omega
  go_cut [98] (fun v wx => v = .bool false ∧ Below w5.heap.size w5 wx)
  case first =>
    have z0 := hs0 w5 (Below.refl _ _)
    have z1 := hs1 w5 (Below.refl _ _)
    have z2 := hs2 w5 (Below.refl _ _)
    have z3 := hs3 w5 (Below.refl _ _)
    clear hs0 hs1 hs2 hs3
    generalize strL xk = SK at z0 z2
    generalize strL xm = SM at z1 z3
    cases r with
    | true =>
      go_wp2_with fail
      refine (right_anyT us1 p1 A1 c1 _ HP1 (Lib.hid HF1.out.2.2.2) ht1 hok1 (by omega) hc1).mono ?_
      rintro e' w6 ⟨rfl, hb⟩
      have hr1 : rightT (conT us1) = true := HF1.out.2.2.1 rfl
      rw [hr1]
      go_wp2_with fail
      refine (refsame_any (us1.take p) ts p p A1 A c1 c _ (by unfold Hid; rw [List.length_take, HP1.out]; omega) HP ((ht1.take p).keep hb) ((hok1.take p).keep hb) (ht.1.keep hb) (ht.2.1.keep hb) (by omega) (by omega)).mono ?_
      rintro e' w7 ⟨rfl, hb2⟩
      rw [HPre.out, decide_eq_true (rfl : conT ts = conT ts)]
      have HB6 := Lib.hid (below_step hb hb2)
      clear hb hb2 ht ht1 hok1 hg1 hk hm
      go_wp2_with fail
      go_meet
      case rel => exact ⟨rfl, HB6.out⟩
    | false =>
      go_wp2_with fail
      refine (refsame_any (us1.take p) ts p p A1 A c1 c _ (by unfold Hid; rw [List.length_take, HP1.out]; omega) HP (ht1.take p) (hok1.take p) ht.1 ht.2.1 (by omega) (by omega)).mono ?_
      rintro e' w7 ⟨rfl, hb2⟩
      rw [HPre.out, decide_eq_true (rfl : conT ts = conT ts)]
      have HB6 := Lib.hid hb2
      clear hb2 ht ht1 hok1 hg1 hk hm
      go_wp2_with fail
      go_meet
      case rel => exact ⟨rfl, HB6.out⟩
  case rest =>
    obtain ⟨rfl, hb⟩ := hcut
    clear ht hs0 hs1 hs2 hs3 k0 k1 hsl hle HPre
    replace hk := hk.keep hb
    replace hm := hm.keep hb
    replace ht1 := ht1.keep hb
    replace hok1 := hok1.keep hb
    replace hg1 := hg1.keep hb
    replace hB := below_step hB hb
    clear hb
    have hps1 := hps.keep hB
    have HPO1 : Hid (∀ q ∈ ps, Rd vB wc q.A q.l) := fun q hq => (HPO.out q hq).keep hB
    clear hps HPO
    go_wp2_with fail
    go_loopw [14, 15] (fun v i wr => FoundRel ps (conT ts) (xk, xm) T r wc v i wr) (fun _ i _ => ps.length - (intOf i).toNat)
    case atStart => exact ⟨0, us1, p1, A1, c1, Nat.zero_le _, rfl, rfl, HP1, hc1, by omega, ht1, hok1, HF1, Below.refl _ _⟩
    case round =>
      clear ht1 hok1 HF1 HP1 hc1 hp1 HC1
      obtain ⟨k, us, q, Ak, ck, hk1, rfl, rfl, HQ, hqc, hq4, htk, hokk, HFk, hBk⟩ := hrel
      by_cases hlt : k < ps.length
      · obtain ⟨blk, o, rfl, hblk, hcell⟩ := hps1.at hlt
        have hc0 := hcell k hlt
        have hpk := HPO1.out ps[k] (List.getElem_mem hlt)
        have hpm := HPM.out ps[k] (List.getElem_mem hlt)
        generalize ps[k] = pp at hc0 hpk hpm
        obtain ⟨pA, pc, pl⟩ := pp
        unfold vPart at hc0
        dsimp only at hc0 hpk hpm
        have hc1 : ∀ W, Below wc.heap.size wc W → W.cell? ⟨blk, o + k, none⟩ = some (.slice pA pl.length pc) := fun W hW => (hW.cell (p := ⟨blk, o + k, none⟩) hblk).trans hc0
        have HC1' := Lib.hid hc1
        have hc2 := hc1 wr hBk
        clear hcell hc0 hc1
        have i1 : (0 : Int) ≤ (k : Int) := by omega
        have i2 : (k : Int) < (ps.length : Int) := by omega
        by_cases hp3 : pl.length ≤ 3000
        · have j1 : ¬ (3000 : Int) < (pl.length : Int) := by omega
          have HTG := Lib.hid (HFk.out.tag pl (by rw [conT_length, HQ.out]; omega))
          have HFn := Lib.hid (HFk.out.put xk pl (by have := HN.out; omega) (by omega))
          go_wp2_with fail
          refine (put_anyT us xk pl q n pl.length Ak B pA ck d pc _ HQ HN (Lib.hid rfl) (Lib.hid HFk.out.2.2.2) htk hokk (hk.keep hBk) (hpk.keep hBk) (by omega) hqc (by omega) (by omega)).mono ?_
          rintro e' w6 ⟨us2, q2, A2, c2, tA2, tc2, rfl, HQ2, hqc2, htc2, ht2, hok2, HC2, hg2, hb6⟩
          have hB6 := below_step hBk hb6
          obtain ⟨T2, hT2⟩ : ∃ T2, T2 = tagT (conT us) (xk, pl) := ⟨_, rfl⟩
          rw [← hT2] at hg2 HTG
          have hT28 : T2.length = 8 := by rw [hT2]; rfl
          have HT28 := Lib.hid hT28
          have HF2 : Hid (FoundIs (conT ts) (xk, xm) T r (conT us2)) := by unfold Hid; rw [HC2.out]; exact HFn.out
          have hq2 : q2 ≤ q + 1 := by
            have := (putT_length (conT us) (xk, pl)).2
            rw [← HC2.out, conT_length, conT_length, HQ.out, HQ2.out] at this
            omega
          have HRel : Hid (∀ W, Below w6.heap.size w6 W → FoundRel ps (conT ts) (xk, xm) T r wc (.slice A2 q2 c2) (.int .i64 ((k : Int) + 1)) W) := fun W hW => ⟨k + 1, us2, q2, A2, c2, hlt, by go_num, rfl, HQ2, hqc2, by omega, ht2.keep hW, hok2.keep hW, HF2, below_step hB6 hW⟩
          have b0 : ((strL T).toList == (strL T2).toList) = decide (pl = xm) := by rw [str_beq]; exact HTG.out
          have b1 := str_beq pl xm
          have hs0 : ∀ W, Below w6.heap.size w6 W → (convert 23 9 (.slice tA1 8 tc1)).run Try.prog W = .ok (.string (strL T)) W := fun W hW => run_str W _ _ _ Try.underlying23 Try.underlying5 Try.underlying9 tA1 T 8 tc1 HT8.out (hg1.keep (below_step hB6 hW))
          have hs1 : ∀ W, Below w6.heap.size w6 W → (convert 23 9 (.slice tA2 8 tc2)).run Try.prog W = .ok (.string (strL T2)) W := fun W hW => run_str W _ _ _ Try.underlying23 Try.underlying5 Try.underlying9 tA2 T2 8 tc2 HT28.out (hg2.keep hW)
          have hs2 : ∀ W, Below w6.heap.size w6 W → (convert 23 9 (.slice pA pl.length pc)).run Try.prog W = .ok (.string (strL pl)) W := run_str_later Try.underlying23 Try.underlying5 Try.underlying9 (hpk.keep hB6)
          have hs3 : ∀ W, Below w6.heap.size w6 W → (convert 23 9 (.slice C m e)).run Try.prog W = .ok (.string (strL xm)) W := by rw [← HM.out]; exact run_str_later Try.underlying23 Try.underlying5 Try.underlying9 (hm.keep hB6)
          have hc6 : ∀ W, Below w6.heap.size w6 W → W.cell? ⟨blk, o + k, none⟩ = some (.slice pA pl.length pc) := fun W hW => HC1'.out W (below_step hB6 hW)
          generalize decide (pl = xm) = bb at b0 b1
          generalize strL T = S0 at b0 hs0
          generalize strL T2 = S1 at b0 hs1
          generalize strL pl = S2 at b1 hs2
          generalize strL xm = S3 at b1 hs3
          clear hT2 hT28 hg2 ht2 hok2 HC2 HF2 hc2 htk hokk HFk hpk HTG HFn hBk hB6
          have hBase : Below w6.heap.size w6 w6.drew := (Below.refl _ _).drew
          go_wp2_with fail
          refine wp_region_plan (.step 0 false (.step 1 false (.step 2 false (.step 3 false (.step 4 false (.step 5 false (.step 6 false (.step 7 false (.step 8 false (.step 9 false (.step 10 false (.step 11 false (.step 12 false (.step 13 false (.nil))))))))))))))) (by kernel_rfl) (by kernel_rfl) (by rfl) (by kernel_rfl) ?_
          iterate 14 (refine plan_read rfl (by rfl) (v := ?_) ?_ ?_; rotate_left 1; (intro W hW; have hW0 := below_step hBase hW; (try dsimp only at hW); go_simp <;> with_reducible rfl); simp only [List.getElem_toArray, List.getElem_cons_zero, List.getElem_cons_succ, Act.put, List.setIfInBounds_toArray, List.set_cons_zero, List.set_cons_succ])
          refine plan_done ?_
          clear hs0 hs1 hs2 hs3 hc6
          go_wp2_with fail
          go_roundw
          case rel => exact HRel.out _ hBase
          case measure => simp [intOf]; omega
        · have j1 : (3000 : Int) < (pl.length : Int) := by omega
          go_wp2_with fail
          go_ret
          exact ⟨rfl, below_step hB hBk⟩
      · have j1 : ¬ (k : Int) < (ps.length : Int) := by omega
        replace hk := hk.keep hBk
        replace hm := hm.keep hBk
        replace hg1 := hg1.keep hBk
        replace hB := below_step hB hBk
        clear hBk hps1 HPO1
        go_wp2_with fail
        refine (of_anyT us T q 8 Ak tA1 ck tc1 _ HQ HT8 (Lib.hid HFk.out.2.2.2) htk hokk hg1 (by omega) (by omega)).mono ?_
        rintro e' w6 ⟨y, u, rfl, hy, HO1, hb⟩
        have hO : ofT (conT us) T = ((xk, xm), 0) := by
          rw [← HFk.out.2.1]
          exact ofT_tag _ _ HFk.out.1 (by rw [conT_length, HQ.out]; omega)
        have hO2 := HO1.out
        rw [hO] at hO2
        injection hO2 with hyc hu
        subst hu
        replace hk := hk.keep hb
        replace hm := hm.keep hb
        replace htk := htk.keep hb
        replace hokk := hokk.keep hb
        replace hg1 := hg1.keep hb
        replace hB := below_step hB hb
        clear hb HO1 hO
        obtain ⟨ykA, ykc, yk, ymA, ymc, ym⟩ := y
        injection hyc with hyk hym
        dsimp only at hyk hym
        subst hyk hym
        obtain ⟨_, _, hyk, hym⟩ := hy
        dsimp only at hyk hym
        unfold TD.at0 TD.at1
        dsimp only
        have hR0 : Row (w6.alloc (.cells #[.slice none 0 0, .slice none 0 0] 29)) w6.heap.size 29 [.slice none 0 0, .slice none 0 0] := Row.new w6 _ _ _ rfl
        go_upto_region 21 with (refine wpList_store_row rfl 29 (.tmp 18) (.tmp 141) rfl w6.heap.size rfl [.slice ykA yk.length ykc, .slice ymA ym.length ymc] rfl _ _ hR0 (by exact size_term) rfl (one_two _ _ rfl rfl) ?_)
        have hR1 := hR0.setRow [.slice ykA yk.length ykc, .slice ymA ym.length ymc]
        have hbn : Below w6.heap.size w6 ((w6.alloc (.cells #[.slice none 0 0, .slice none 0 0] 29)).setRow w6.heap.size [.slice ykA yk.length ykc, .slice ymA ym.length ymc].toArray) := below_setRow (below_new (Below.refl _ _) _) (Nat.le_refl _) _
        generalize (w6.alloc (.cells #[.slice none 0 0, .slice none 0 0] 29)).setRow w6.heap.size [.slice ykA yk.length ykc, .slice ymA ym.length ymc].toArray = w7 at hR1 hbn ⊢
        replace hk := hk.keep hbn
        replace hm := hm.keep hbn
        replace htk := htk.keep hbn
        replace hokk := hokk.keep hbn
        replace hg1 := hg1.keep hbn
        replace hyk := hyk.keep hbn
        replace hym := hym.keep hbn
        replace hB := below_step hB hbn
        clear hbn hR0
        generalize w6.heap.size = g7 at hR1 ⊢
        go_wp2_with fail
        refine (put_anyT us yk ym q n m Ak B C ck d e _ HQ HN HM (Lib.hid HFk.out.2.2.2) htk hokk hk hm (by omega) hqc (by omega) (by omega)).mono ?_
        rintro e' w8 ⟨us3, q3, A3, c3, tA3, tc3, rfl, HQ3, hqc3, htc3, ht3, hok3, HC3, hg3, hb⟩
        rw [HFk.out.2.1] at hg3
        have hq3 : q3 ≤ q + 1 := by
          have := (putT_length (conT us) (yk, ym)).2
          rw [← HC3.out, conT_length, conT_length, HQ.out, HQ3.out] at this
          omega
        have HSA : Hid (decide (conT us3 = conT us) = true) := by unfold Hid; rw [HC3.out, putT_twice _ _ HFk.out.1]; simp
        have s0 : (convert 23 9 (.slice ykA yk.length ykc)).run Try.prog w8 = .ok (.string (strL yk)) w8 := run_str _ _ _ _ Try.underlying23 Try.underlying5 Try.underlying9 _ yk _ _ rfl (hyk.keep hb)
        have s1 : (convert 23 9 (.slice ymA ym.length ymc)).run Try.prog w8 = .ok (.string (strL ym)) w8 := run_str _ _ _ _ Try.underlying23 Try.underlying5 Try.underlying9 _ ym _ _ rfl (hym.keep hb)
        have s2 : (convert 23 9 (.slice B n d)).run Try.prog w8 = .ok (.string (strL yk)) w8 := run_str _ _ _ _ Try.underlying23 Try.underlying5 Try.underlying9 _ yk _ _ HN.out (hk.keep hb)
        have s3 : (convert 23 9 (.slice C m e)).run Try.prog w8 = .ok (.string (strL ym)) w8 := run_str _ _ _ _ Try.underlying23 Try.underlying5 Try.underlying9 _ ym _ _ HM.out (hm.keep hb)
        have s4 : (convert 23 9 (.slice tA1 8 tc1)).run Try.prog w8 = .ok (.string (strL T)) w8 := run_str _ _ _ _ Try.underlying23 Try.underlying5 Try.underlying9 _ T _ _ HT8.out (hg1.keep hb)
        have s5 : (convert 23 9 (.slice tA3 8 tc3)).run Try.prog w8 = .ok (.string (strL T)) w8 := run_str _ _ _ _ Try.underlying23 Try.underlying5 Try.underlying9 _ T _ _ HT8.out hg3
        have c0 : w8.cell? ⟨g7, 0, none⟩ = some (.slice ykA yk.length ykc) := (hR1.later hb).cell rfl
        have c1' : w8.cell? ⟨g7, 1, none⟩ = some (.slice ymA ym.length ymc) := (hR1.later hb).cell rfl
        replace htk := htk.keep hb
        replace hokk := hokk.keep hb
        replace hB := below_step hB hb
        generalize strL yk = S0 at s0 s2
        generalize strL ym = S1 at s1 s3
        generalize strL T = S2 at s4 s5
        clear hb hk hm hg1 hg3 hR1 hyk hym HC3
        go_wp2_with fail
        refine (refsame_any us3 us q3 q A3 Ak c3 ck _ HQ3 HQ ht3 hok3 htk hokk (by omega) (by omega)).mono ?_
        rintro e' w9 ⟨rfl, hb⟩
        rw [HSA.out]
        replace htk := htk.keep hb
        replace hokk := hokk.keep hb
        replace hB := below_step hB hb
        clear hb ht3 hok3 s0 s1 s2 s3 s4 s5 c0 c1'
        cases r with
        | true =>
          go_wp2_with fail
          refine (right_anyT us q Ak ck _ HQ (Lib.hid HFk.out.2.2.2) htk hokk (by omega) hqc).mono ?_
          rintro e' w10 ⟨rfl, hb⟩
          have hr1 : rightT (conT us) = true := HFk.out.2.2.1 rfl
          rw [hr1]
          go_wp2_with fail
          go_ret
          exact ⟨rfl, below_step hB hb⟩
        | false =>
          go_wp2_with fail
          go_ret
          exact ⟨rfl, hB⟩
end Go.Proofs.Ytppdfldmbfddnaa
