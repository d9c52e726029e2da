/-
  What the program's call Right of layer 5 answers: a map of what was seen, whose keys are pairs of strings. No conditions but those typed.
-/
import Derived.Test.YtppdfldmbfddnaaTermEq
import Derived.Maps.OwnOps
import Derived.Maps.Views
import Derived.DeepKeys4
namespace Go.Proofs.Ytppdfldmbfddnaa
open Go.RowKit
set_option linter.unusedSimpArgs false
set_option linter.unusedVariables false

/-! ### the key -/
def klit (x : Tm) : Lit := .string (keyBytes [.string x.1, .string x.2])
theorem law2 : Maps.Keyed Try.prog 47 := Maps.Keyed.of_law (deep_law_laid (by kernel_rfl) (m := 2) (by omega) (of_decide_eq_true (by kernel_rfl)) (by kernel_rfl) (by rw [Try.underlying47]))
theorem cells2 : Try.prog.cellsOf 47 = 2 := by kernel_rfl
theorem cells1 : Try.prog.cellsOf 9 = 1 := by kernel_rfl
theorem keytype2 : Try.prog.keyType 47 = true := by kernel_rfl
theorem size2 : (Try.prog.info? 47).map (·.size) = some 2 := by kernel_rfl
theorem key_of (x : Tm) (h1 : x.1.length ≤ 1000000000) (h2 : x.2.length ≤ 1000000000) : keyOf Try.prog 47 (.agg #[.string (strL x.1), .string (strL x.2)]) = some (klit x) := by
  have hm : ∃ m, Try.prog.types.size = m + 1 := ⟨Try.prog.types.size - 1, by have : 0 < Try.prog.types.size := of_decide_eq_true (by kernel_rfl); omega⟩
  obtain ⟨m, hm⟩ := hm
  have s1 : (strL x.1).size ≤ maxLen := by rw [strL_size]; unfold maxLen; omega
  have s2 : (strL x.2).size ≤ maxLen := by rw [strL_size]; unfold maxLen; omega
  unfold keyOf
  simp only [Try.underlying47]
  rw [if_pos (by simp [keytype2, Value.formed, Try.underlying47, cells2]), hm]
  unfold Program.keyLits
  simp only [Try.underlying47, Value.cells]
  rw [if_pos (by rw [cells2]; rfl), show List.range 2 = [0, 1] from rfl, List.mapM_cons, List.mapM_cons, List.mapM_nil]
  have e1 : (strL x.1).data.toList = x.1 := by simp [strL]
  have e2 : (strL x.2).data.toList = x.2 := by simp [strL]
  simp [cells1, Program.keyLits, Try.underlying9, s1, s2, e1, e2, klit]
theorem klit_inj {x y : Tm} (hx : x.1.length ≤ 1000000000 ∧ x.2.length ≤ 1000000000) (hy : y.1.length ≤ 1000000000 ∧ y.2.length ≤ 1000000000) (h : klit x = klit y) : x = y := by
  have h1 := key_of x hx.1 hx.2
  have h2 := key_of y hy.1 hy.2
  rw [← h] at h2
  have := law2.inj h1 h2
  injection this with this
  injection this with this
  simp at this
  exact Prod.ext (strL_inj this.1) (strL_inj this.2)

/-! ### what was seen -/
def SeenD (D : DataW Unit) (cs : List Tm) : Prop := Maps.IsMap D ∧ ∀ x : Tm, x.1.length ≤ 1000000000 → x.2.length ≤ 1000000000 → D.atKey (klit x) (.lit (.bool false)) = .lit (.bool (decide (x ∈ cs)))
theorem SeenD.none : SeenD (.map []) [] := ⟨⟨[], rfl⟩, fun x _ _ => by simp [DataW.atKey]⟩
theorem SeenD.more {D : DataW Unit} {cs : List Tm} (h : SeenD D cs) (y : Tm) (h1 : y.1.length ≤ 1000000000) (h2 : y.2.length ≤ 1000000000) : SeenD (D.put (klit y) (.lit (.bool true))) (cs ++ [y]) := by
  refine ⟨h.1.put _ _, fun x k1 k2 => ?_⟩
  by_cases e : x = y
  · subst e
    rw [Maps.atKey_put_same h.1 (by unfold klit; trivial)]
    simp
  · rw [Maps.atKey_put_other (fun q => e (klit_inj ⟨k1, k2⟩ ⟨h1, h2⟩ q)), h.2 x k1 k2]
    simp [e]

theorem ownsMap_keep {H : Type} {P : Program} {k : TypeId} {R : Value → Option (DataW H × List MemPlace)} {w w' : World} {b n : Nat} {D : DataW H} (h : w.ownsMap P k R b n D) (hb : Below w.heap.size w w') : w'.ownsMap P k R b n D := by
  have hlt := h.lt
  obtain ⟨es, clock, hh, F, hs, hD⟩ := h
  exact ⟨es, clock, (hb.block b hlt).trans hh, F, hs, hD⟩
theorem plainElem_bool_inv {H : Type} {P : Program} {e : TypeId} (he : P.underlying e = some .bool) {v : Value} {z : DataW H × List MemPlace} (h : plainElem P e v = some z) : ∃ b, v = .bool b ∧ z = (.lit (.bool b), []) := by
  unfold plainElem at h
  rw [he] at h
  cases v <;> simp at h
  subst h
  exact ⟨_, rfl, rfl⟩
/-- 'm[k]' in a map of bools that the call made. -/
theorem wpList_lookup_own_bool {H : Type} {P : Program} (w : World) {ops : Array Oper} {rest : List Oper} {o : Oper} {a : Act} {Q : Exit → Act → World → Prop}
    (hg : o.guard = none) (m x : Operand) (t : TypeId) (hop : o.op = Op.lookup t m x false)
    (k e : TypeId) (K : Maps.Keyed P k) (ht : P.underlying t = some (.map k e)) (he : P.underlying e = some .bool) (hz : (zeroValue e).run P w = .ok (.bool false) w) (b n : Nat) (D : DataW H)
    (hm : a.eval m = .map (some b)) (hown : w.ownsMap P k (plainElem P e) b n D) (key : Value) (kl : Lit) (hx : a.eval x = key) (hkey : keyOf P k key = some kl) (r : Bool) (hr : D.atKey kl (.lit (.bool false)) = .lit (.bool r))
    (hK : wpList P ops Q rest (a.put o.dst (.bool r)) w) :
    wpList P ops Q (o :: rest) a w := by
  refine wpList_plain hg fun K' hK' => ?_
  obtain ⟨v, ps, hrun, hv⟩ := hown.lookup K ht hz (plainElem_bool he false) hkey
  obtain ⟨c, rfl, hc⟩ := plainElem_bool_inv he hv
  rw [hr] at hc
  simp only [Prod.mk.injEq] at hc
  have hcr : r = c := by
    have := hc.1
    injection this with this
    injection this
  subst hcr
  unfold Oper.wp
  simp [execOp, hop, hm, hx, hrun, Result.andThen]
  exact hK' _ _ hK

def SetRel (cs : List Tm) (w : World) (i : Value) (wr : World) : Prop :=
  ∃ (k : Nat) (D : DataW Unit), k ≤ cs.length ∧ i = .int .i64 (k : Int) ∧ wr.ownsMap Try.prog 47 (plainElem Try.prog 4) w.heap.size k D ∧ SeenD D (cs.take k) ∧ (cs.take k).Nodup ∧ Below w.heap.size w wr
theorem nodup_take {cs : List Tm} {k : Nat} (hk : k < cs.length) (h : (cs.take k).Nodup) (hn : cs[k] ∉ cs.take k) : (cs.take (k + 1)).Nodup := by
  rw [List.take_succ_eq_append_getElem hk, List.nodup_append]
  refine ⟨h, by simp, fun a ha b hb => ?_⟩
  simp at hb
  subst hb
  exact fun e => hn (e ▸ ha)
theorem not_nodup {cs : List Tm} {k : Nat} (hk : k < cs.length) (hn : cs[k] ∈ cs.take k) : ¬ cs.Nodup := by
  intro h
  rw [← List.take_append_drop k cs, List.nodup_append] at h
  have h2 := h.2.2 _ hn
  rw [List.drop_eq_getElem_cons hk] at h2
  exact h2 cs[k] List.mem_cons_self rfl

set_option maxHeartbeats 1000000 in
theorem right_anyT (ts : List TD) (p : Nat) (A : Option Addr) (c : Nat) (w : World) (HP : Hid (ts.length = p)) (HL : Hid (lenT (conT ts))) (ht : RdT w A ts) (hok : okT w ts) (hp : p ≤ 1000000000) (hc : p ≤ c) :
    Calls Try.prog 11 #[.slice A p c] w fun e w' => e = .returned (.bool (rightT (conT ts))) ∧ Below w.heap.size w w' := by
  have e1 := HP.out
  subst e1
  have HOK := Lib.hid hok
  have hmk := @run_makeMap Try.prog
  have hzb : ∀ w, (zeroValue 4).run Try.prog w = .ok (.bool false) w := fun w => by kernel_rfl
  clear hok HP
  go_enter Try.func11, Try.ntmps11
  go_wp2_with fail
  go_loopw [10] (fun i wr => SetRel (conT ts) w i wr) (fun i _ => ts.length - (intOf i).toNat)
  case atStart => exact ⟨0, .map [], Nat.zero_le _, rfl, World.ownsMap_made _ _ _ _, SeenD.none, by simp, below_new (Below.refl _ _) _⟩
  case round =>
    clear hmk
    obtain ⟨k, D, hk1, rfl, hown, hsee, hnd, hB⟩ := hrel
    by_cases hlt : k < ts.length
    · obtain ⟨blk, o, rfl, hblk, hcell⟩ := ht.at hlt
      have hx := (HOK.out ts[k] (List.getElem_mem hlt)).keep hB
      have hg := conT_get ts k hlt
      have hlc : k < (conT ts).length := by rw [conT_length]; exact hlt
      have hlen := lenT.at HL.out (List.getElem_mem hlt)
      have HIN : Hid (ts[k].c ∈ (conT ts).take k → rightT (conT ts) = false) := fun hn => by
        unfold rightT
        rw [decide_eq_false_iff_not]
        exact not_nodup hlc (by rw [hg]; exact hn)
      have HOUT : Hid (ts[k].c ∉ (conT ts).take k → ((conT ts).take (k + 1)).Nodup) := fun hn => nodup_take hlc hnd (by rw [hg]; exact hn)
      have HTK : Hid ((conT ts).take (k + 1) = (conT ts).take k ++ [ts[k].c]) := by unfold Hid; rw [List.take_succ_eq_append_getElem hlc, hg]
      obtain ⟨h0, h1⟩ := hcell k hlt
      have hc0 : wr.rangeAt blk (o + k * 2) [ts[k].at0, ts[k].at1] := fun j u hu => by
        match j, hu with
        | 0, hu => injection hu with hu; subst hu; exact (hB.cell (p := ⟨blk, o + k * 2, none⟩) hblk).trans h0
        | 1, hu => injection hu with hu; subst hu; exact (hB.cell (p := ⟨blk, o + k * 2 + 1, none⟩) hblk).trans h1
      generalize ts[k] = x at hx HIN HOUT HTK hc0 hlen
      have i0 : (0 : Int) ≤ (k : Int) := by omega
      have i1 : (k : Int) < (ts.length : Int) := by omega
      have HB := Lib.hid hB
      have HK := Lib.hid hk1
      have hR0 : Row (wr.alloc (.cells #[.slice none 0 0, .slice none 0 0] 29)) wr.heap.size 29 [.slice none 0 0, .slice none 0 0] := Row.new wr _ _ _ rfl
      have hkey := key_of x.c hlen.1 hlen.2
      have hat := hsee.2 x.c hlen.1 hlen.2
      have HSM := Lib.hid (hsee.more x.c hlen.1 hlen.2)
      rw [← HTK.out] at HSM
      obtain ⟨r, hr⟩ : ∃ r, r = decide (x.c ∈ (conT ts).take k) := ⟨_, rfl⟩
      rw [← hr] at hat
      have HRR := Lib.hid hr
      have HND := Lib.hid hnd
      generalize klit x.c = kl at hkey hat HSM
      clear h0 h1 hcell hg hk1 hB hnd hr hsee
      go_upto_region 5 with (first
        | (refine wpList_load_mid rfl 29 (.tmp 12) rfl blk (o + k * 2) rfl [x.at0, x.at1] _ hc0 Try.underlying29 rfl (by exact size_term) ?_)
        | (refine wpList_store_row rfl 29 (.tmp 5) (.tmp 13) rfl wr.heap.size rfl [x.at0, x.at1] rfl _ _ hR0 (by exact size_term) rfl (one_two _ _ rfl rfl) ?_))
      have hR1 := hR0.setRow [x.at0, x.at1]
      have hbn : Below wr.heap.size wr ((wr.alloc (.cells #[.slice none 0 0, .slice none 0 0] 29)).setRow wr.heap.size [x.at0, x.at1].toArray) := below_setRow (below_new (Below.refl _ _) _) (Nat.le_refl _) _
      generalize (wr.alloc (.cells #[.slice none 0 0, .slice none 0 0] 29)).setRow wr.heap.size [x.at0, x.at1].toArray = w1 at hR1 hbn ⊢
      replace hx := hx.keep hbn
      replace hown := ownsMap_keep hown hbn
      have HB1 : Hid (Below w.heap.size w w1) := below_step HB.out hbn
      clear hbn hR0 hc0 HB
      generalize wr.heap.size = g1 at hR1 ⊢
      obtain ⟨kA, kc, sk, mA, mc, sm⟩ := x
      obtain ⟨_, _, hkr, hmr⟩ := hx
      unfold TD.at0 TD.at1 TD.c at *
      dsimp only at hkr hmr hlen hkey hR1 HIN HOUT HTK HSM HRR ⊢
      have k0 : w1.cell? ⟨g1, 0, none⟩ = some (.slice kA sk.length kc) := hR1.cell rfl
      have k1 : w1.cell? ⟨g1, 1, none⟩ = some (.slice mA sm.length mc) := hR1.cell rfl
      have s0 : (convert 23 9 (.slice kA sk.length kc)).run Try.prog w1 = .ok (.string (strL sk)) w1 := run_str _ _ _ _ Try.underlying23 Try.underlying5 Try.underlying9 _ sk _ _ rfl hkr
      have s1 : (convert 23 9 (.slice mA sm.length mc)).run Try.prog w1 = .ok (.string (strL sm)) w1 := run_str _ _ _ _ Try.underlying23 Try.underlying5 Try.underlying9 _ sm _ _ rfl hmr
      generalize strL sk = SK at s0 hkey
      generalize strL sm = SM at s1 hkey
      clear hkr hmr hR1 hlen
      go_upto_region 6 with fail
      have hR2 : Row (w1.alloc (.cells #[.string SK, .string SM] 47)) w1.heap.size 47 [.string SK, .string SM] := Row.new w1 _ _ _ rfl
      have hbn := below_new (Below.refl _ w1) (.cells #[.string SK, .string SM] 47)
      replace hown := ownsMap_keep hown hbn
      replace HB1 := Lib.hid (below_step HB1.out hbn)
      clear hbn k0 k1 s0 s1
      generalize w1.alloc (.cells #[.string SK, .string SM] 47) = w2 at hR2 hown HB1 ⊢
      cases r with
      | true =>
        have hin : (sk, sm) ∈ (conT ts).take k := of_decide_eq_true HRR.out.symm
        have HF := Lib.hid (HIN.out hin)
        clear HIN HOUT hin
        go_wp2_with (first
          | (refine wpList_load_part rfl 47 (.tmp 6) rfl w1.heap.size 0 rfl _ _ hR2 [.string SK, .string SM] (by rfl) _ Try.underlying47 rfl (by exact size2) ?_)
          | (at_lookup; refine wpList_lookup_own_bool _ rfl (.tmp 21) (.tmp 22) 46 rfl 47 4 law2 Try.underlying46 Try.underlying4 (hzb _) w.heap.size k D rfl hown _ kl rfl hkey true hat ?_))
        go_ret
        exact ⟨by rw [HF.out]; rfl, HB1.out⟩
      | false =>
        have hin : (sk, sm) ∉ (conT ts).take k := of_decide_eq_false HRR.out.symm
        have HF := Lib.hid (HOUT.out hin)
        clear HIN HOUT hin
        go_wp2_with (first
          | (refine wpList_load_part rfl 47 (.tmp 6) rfl w1.heap.size 0 rfl _ _ hR2 [.string SK, .string SM] (by rfl) _ Try.underlying47 rfl (by exact size2) ?_)
          | (at_lookup; refine wpList_lookup_own_bool _ rfl (.tmp 21) (.tmp 22) 46 rfl 47 4 law2 Try.underlying46 Try.underlying4 (hzb _) w.heap.size k D rfl hown _ kl rfl hkey false hat ?_)
          | (at_mapUpdate; refine wpList_mapUpdate_own _ rfl (.tmp 24) (.tmp 25) (.const (.bool true)) 46 rfl 47 4 law2 Try.underlying46 _ w.heap.size k D rfl hown (by unfold maxLen; omega) _ _ kl rfl rfl hkey (.lit (.bool true)) [] (plainElem_bool Try.underlying4 true) ?_; intro w3 hown3 hgrow3))
        go_roundw
        case rel => exact ⟨k + 1, _, by omega, by go_num, hown3, HSM.out, HF.out, HB1.out.grown hgrow3 HB1.out.size (fun j hj => by injection hj with hj; omega)⟩
        case measure => simp [intOf]; omega
    · have hk2 : k = ts.length := by rw [conT_length] at hk1; omega
      have HN : Hid (rightT (conT ts) = true) := by
        unfold Hid rightT
        rw [decide_eq_true_eq]
        rw [hk2, ← conT_length, List.take_length] at hnd
        exact hnd
      have j1 : ¬ (k : Int) < (ts.length : Int) := by omega
      clear hnd hk1 hk2 hsee
      go_wp2_with fail
      go_ret
      exact ⟨by rw [HN.out]; rfl, hB⟩
end Go.Proofs.Ytppdfldmbfddnaa
