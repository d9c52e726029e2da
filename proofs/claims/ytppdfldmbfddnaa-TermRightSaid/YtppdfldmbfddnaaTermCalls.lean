/-
  What the program's calls Put and Of of layer 5 answer (Place: XTermPlace, Right: XTermSet). No conditions but those typed.
-/
import Derived.Test.YtppdfldmbfddnaaTermPlace
import Derived.Test.YtppdfldmbfddnaaTermSet
import Derived.Maps.AppendAt
namespace Go.Proofs.Ytppdfldmbfddnaa
open Go.RowKit
set_option linter.unusedSimpArgs false
set_option linter.unusedVariables false

/-! ### rows of terms of the call's own -/
/-- No key and no text of these lies in that block. -/
def apartT (row : Option Nat) (us : List TD) : Prop := ∀ y ∈ us, (y.k ≠ [] → ∀ a, y.kA = some a → row ≠ some a.block) ∧ (y.m ≠ [] → ∀ a, y.mA = some a → row ≠ some a.block)
theorem apartT.nil (row : Option Nat) : apartT row [] := fun y hy => by cases hy
theorem Rd.grown' {α : Type} {f : α → Value} {w w' : World} {row : Option Nat} {A : Option Addr} {L : List α} (h : Rd f w A L) (hg : w.grownBy w' row) (hA : L ≠ [] → ∀ a, A = some a → row ≠ some a.block) : Rd f w' A L := by
  by_cases e : L = []
  · subst e
    exact Rd.nil
  · exact h.grown hg (hA e)
theorem okT.grown {w w' : World} {row : Option Nat} {us : List TD} (h : okT w us) (hg : w.grownBy w' row) (ha : apartT row us) : okT w' us := fun y hy => by
  obtain ⟨h1, h2, h3, h4⟩ := h y hy
  exact ⟨h1, h2, h3.grown' hg (ha y hy).1, h4.grown' hg (ha y hy).2⟩
theorem Rd.lt_of {α : Type} {f : α → Value} {w : World} {A : Option Addr} {L : List α} (h : Rd f w A L) (hn : L ≠ []) {a : Addr} (ha : A = some a) : a.block < w.heap.size := by
  obtain ⟨b, o, e, hb, _⟩ := h.at (k := 0) (by cases L; exact absurd rfl hn; simp)
  rw [ha] at e
  injection e with e
  rw [e]
  exact hb
theorem apartT.grown {w : World} {r r' : Option Nat} {us : List TD} (h : apartT r us) (hok : okT w us) (hr : r' = r ∨ r' = some w.heap.size) : apartT r' us := by
  rcases hr with rfl | rfl
  · exact h
  · intro y hy
    obtain ⟨_, _, h3, h4⟩ := hok y hy
    refine ⟨fun hn a ha e => ?_, fun hn a ha e => ?_⟩
    · have := h3.lt_of hn ha
      injection e with e
      omega
    · have := h4.lt_of hn ha
      injection e with e
      omega
theorem apartT.snoc {r : Option Nat} {us : List TD} {y : TD} {B : Nat} (h : apartT r us) (hy : y.new B) (hr : ∀ k, r = some k → k < B) : apartT r (us ++ [y]) := fun z hz => by
  rcases List.mem_append.1 hz with hz | hz
  · exact h z hz
  · simp at hz
    subst hz
    refine ⟨fun _ a ha e => ?_, fun _ a ha e => ?_⟩
    · have h1 := hy.1 a ha
      have h2 := hr _ e
      omega
    · have h1 := hy.2 a ha
      have h2 := hr _ e
      omega
theorem cellsT_snoc (us : List TD) (y : TD) : cellsT (us ++ [y]) = cellsT us ++ y.cells := by simp [cellsT]
theorem conT_snoc (us : List TD) (y : TD) : conT (us ++ [y]) = conT us ++ [y.c] := by simp [conT]
/-- A row of terms, whose keys and texts lie elsewhere. -/
def OwnT (B : Nat) (us : List TD) (v : Value) (w : World) : Prop := w.ownsRow B 29 2 v us.length (cellsT us) ∧ okT w us ∧ apartT v.ownBlock us
theorem OwnT.later {B : Nat} {us : List TD} {v : Value} {w w' : World} (h : OwnT B us v w) (hb : Below w.heap.size w w') : OwnT B us v w' := ⟨ownsRow2_later h.1 hb, h.2.1.keep hb, h.2.2⟩
theorem OwnT.more {B : Nat} {us : List TD} {y : TD} {v v' : Value} {w w1 w2 w3 : World} (h : OwnT B us v w) (hb : Below w.heap.size w w1) (hy : y.ok w1) (hn : y.new w.heap.size) (hb2 : Below w1.heap.size w1 w2) (ho : w3.ownsRow B 29 2 v' (us.length + 1) (cellsT us ++ y.cells)) (hg : w2.grownBy w3 v.ownBlock) (hv : v'.ownBlock = v.ownBlock ∨ v'.ownBlock = some w2.heap.size) : OwnT B (us ++ [y]) v' w3 := by
  have hB := below_step hb hb2
  have hok2 : okT w2 (us ++ [y]) := (h.2.1.keep hB).app (fun z hz => by simp at hz; subst hz; exact hy.keep hb2)
  have hap : apartT v.ownBlock (us ++ [y]) := h.2.2.snoc hn (fun k hk => (h.1.lt k hk).2)
  refine ⟨by rw [cellsT_snoc, List.length_append]; exact ho, hok2.grown hg hap, hap.grown hok2 hv⟩
theorem OwnT.slice {B : Nat} {us : List TD} {v : Value} {w : World} (h : OwnT B us v w) : ∃ A cap, v = .slice A us.length cap ∧ us.length ≤ cap ∧ RdT w A us := own_sliceT h.1

def PutRel (ts : List TD) (w : World) (v i : Value) (wr : World) : Prop :=
  ∃ (k : Nat) (us : List TD), k ≤ ts.length ∧ i = .int .i64 (k : Int) ∧ Hid (us.length = k) ∧ OwnT w.heap.size us v wr ∧ conT us = (conT ts).take k ∧ Below w.heap.size w wr

set_option maxRecDepth 100000 in
set_option maxHeartbeats 1000000 in
theorem put_anyT (ts : List TD) (key msg : List UInt8) (p n m : Nat) (A B C : Option Addr) (c d e : Nat) (w : World) (HP : Hid (ts.length = p)) (HN : Hid (key.length = n)) (HM : Hid (msg.length = m)) (HL : Hid (lenT (conT ts))) (ht : RdT w A ts) (hok : okT w ts) (hk : Rd vB w B key) (hm : Rd vB w C msg) (hp : p ≤ 1000000000) (hc : p ≤ c) (hn : n ≤ 1000000000) (hmm : m ≤ 1000000000) :
    Calls Try.prog 7 #[.slice A p c, .slice B n d, .slice C m e] w (PutRes ts (key, msg) w) := by
  have e1 := HP.out
  have e2 := HN.out
  have e3 := HM.out
  subst e1 e2 e3
  have HOK := Lib.hid hok
  clear hok HP HN HM
  obtain ⟨j0, hj, gz0, gz1, gz2⟩ := info_parts info_term
  go_enter Try.func7, Try.ntmps7
  go_upto_region 3 with (at_make; refine wpList_make_own _ rfl _ _ 22 rfl w.heap.size 29 j0 (.agg #[.slice none 0 0, .slice none 0 0]) 2 Try.underlying22 hj gz0 gz1 .i64 .i64 _ (ts.length + 1) rfl rfl (by omega) (by rw [gz2]; omega) (by unfold maxLen; omega) (Nat.le_refl _) ?_; intro w0 hown0 hgrow0)
  have hOwn0 : OwnT w.heap.size [] (.slice (some ⟨w.heap.size, 0, none⟩) 0 (ts.length + 1)) w0 := ⟨hown0, (fun x hx => by cases hx), apartT.nil _⟩
  have hB0 : Below w.heap.size w w0 := (Below.refl _ w).grown hgrow0 (Nat.le_refl _) (fun k hk => by cases hk)
  clear hown0 hgrow0
  go_loopw [8, 18] (fun v i wr => PutRel ts w v i wr) (fun _ i _ => ts.length - (intOf i).toNat)
  case atStart => exact ⟨0, [], Nat.zero_le _, rfl, Lib.hid rfl, hOwn0, by simp [conT], hB0⟩
  case round =>
    clear hOwn0 hB0
    obtain ⟨k, us, hk1, rfl, HU, hown, hcon, hB⟩ := hrel
    have eU := HU.out
    subst eU
    clear HU
    by_cases hlt : us.length < ts.length
    · obtain ⟨blk, o, rfl, hblk, hcell⟩ := ht.at hlt
      have hx := (HOK.out ts[us.length] (List.getElem_mem hlt)).keep hB
      have hlen := lenT.at HL.out (List.getElem_mem hlt)
      have hlc : us.length < (conT ts).length := by rw [conT_length]; exact hlt
      have HTK : Hid ((conT ts).take (us.length + 1) = conT us ++ [ts[us.length].c]) := by unfold Hid; rw [List.take_succ_eq_append_getElem hlc, conT_get ts _ hlt, hcon]
      obtain ⟨h0, h1⟩ := hcell _ hlt
      have hc0 : wr.rangeAt blk (o + us.length * 2) [ts[us.length].at0, ts[us.length].at1] := fun j u hu => by
        match j, hu with
        | 0, hu => injection hu with hu; subst hu; exact (hB.cell (p := ⟨blk, o + us.length * 2, none⟩) hblk).trans h0
        | 1, hu => injection hu with hu; subst hu; exact (hB.cell (p := ⟨blk, o + us.length * 2 + 1, none⟩) hblk).trans h1
      generalize ts[us.length] = x at hx hlen HTK hc0
      have i0 : (0 : Int) ≤ (us.length : Int) := by omega
      have i1 : (us.length : Int) < (ts.length : Int) := by omega
      have HB := Lib.hid hB
      have hR0 : Row (wr.alloc (.cells #[.slice none 0 0, .slice none 0 0] 29)) wr.heap.size 29 [.slice none 0 0, .slice none 0 0] := Row.new wr _ _ _ rfl
      clear h0 h1 hcell hk1 hB hcon
      go_upto_region 5 with (first
        | (refine wpList_load_mid rfl 29 (.tmp 20) rfl blk (o + us.length * 2) rfl [x.at0, x.at1] _ hc0 Try.underlying29 rfl (by exact size_term) ?_)
        | (refine wpList_store_row rfl 29 (.tmp 10) (.tmp 21) rfl wr.heap.size rfl [x.at0, x.at1] rfl _ _ hR0 (by exact size_term) rfl (one_two _ _ rfl rfl) ?_))
      have hR1 := hR0.setRow [x.at0, x.at1]
      have hbn : Below wr.heap.size wr ((wr.alloc (.cells #[.slice none 0 0, .slice none 0 0] 29)).setRow wr.heap.size [x.at0, x.at1].toArray) := below_setRow (below_new (Below.refl _ _) _) (Nat.le_refl _) _
      generalize (wr.alloc (.cells #[.slice none 0 0, .slice none 0 0] 29)).setRow wr.heap.size [x.at0, x.at1].toArray = w1 at hR1 hbn ⊢
      replace hx := hx.keep hbn
      replace hown := hown.later hbn
      have HB1 : Hid (Below w.heap.size w w1) := below_step HB.out hbn
      clear hbn hR0 hc0 HB
      generalize wr.heap.size = g1 at hR1 ⊢
      go_wp2_with (refine wpList_load_part rfl 29 (.tmp 10) rfl g1 0 rfl _ _ hR1 [x.at0, x.at1] (by rfl) _ Try.underlying29 rfl (by exact size_term) ?_)
      refine (copied_any x _ hx.2.2.1 hx.2.2.2 hlen.1 hlen.2).mono ?_
      rintro e' w2 ⟨y, rfl, hy, hyc, hyn, hb2⟩
      have hbn := below_new (Below.refl _ w2) (.cells #[y.at0, y.at1] 29)
      have hown4 := hown.later (below_step hb2 hbn)
      have hbase := (below_step HB1.out (below_step hb2 hbn)).size
      have hus : us.length + 1 ≤ 1000000001 := by omega
      go_wp2_with (at_builtin; refine wpList_append_own_at _ rfl (.tmp 22) (.tmp 25) 22 rfl w.heap.size 29 j0 (.agg #[.slice none 0 0, .slice none 0 0]) 2 48 Try.underlying22 hj gz0 gz1 gz2 rfl (by decide) _ us.length (cellsT us) rfl hown4.1 ⟨w2.heap.size, 0, none⟩ 1 1 y.cells rfl rfl (cells_new _ _ _) (one_two _ _ rfl rfl) (by unfold maxLen; omega) (by omega) hbase ?_; intro v3 w3 hown3 hgrow3 _ hv3)
      go_roundw
      case rel => exact ⟨us.length + 1, us ++ [y], by omega, by go_num, by unfold Hid; simp, hown.more hb2 hy hyn hbn hown3 hgrow3 hv3, by rw [conT_snoc, hyc, HTK.out], (below_step HB1.out (below_step hb2 hbn)).grown hgrow3 hbase (fun j hj => (hown.1.lt j hj).1)⟩
      case measure => simp [intOf]; omega
    · have hul : us.length = ts.length := by omega
      have hcu : conT us = conT ts := by rw [hcon, hul, ← conT_length, List.take_length]
      have HCU := Lib.hid hcu
      have HUL := Lib.hid hul
      have j1 : ¬ (us.length : Int) < (ts.length : Int) := by omega
      have HB := Lib.hid hB
      clear hcu hcon hk1 hul
      by_cases hin : (key, msg) ∈ conT ts
      · have hlt2 := (idx_lt _ _).2 hin
        rw [conT_length] at hlt2
        have hpl := plI_in _ _ hin
        have HC : Hid (conT us = putT (conT ts) (key, msg)) := HCU.out.trans (putT_twice _ _ hin).symm
        obtain ⟨tg, htg⟩ : ∃ tg, tg = tagT (conT ts) (key, msg) := ⟨_, rfl⟩
        have HT : Hid (putL (idx (key, msg) (conT ts) + 1) = tg) := htg.symm
        have HTG := Lib.hid htg
        clear htg
        generalize idx (key, msg) (conT ts) = q at hlt2 hpl HT
        have HPL := Lib.hid hpl
        have hge : ¬ (q : Int) < 0 := by omega
        clear hpl hin
        go_wp2_with fail
        refine (place_anyT ts key msg ts.length key.length msg.length A B C c d e _ (Lib.hid rfl) (Lib.hid rfl) (Lib.hid rfl) (ht.keep HB.out) (HOK.out.keep HB.out) (hk.keep HB.out) (hm.keep HB.out) hp hn hmm).mono ?_
        rintro e' w1 ⟨rfl, hb1⟩
        rw [HPL.out]
        go_wp2_with fail
        refine (tagof_any q tg _ (by omega) HT).mono ?_
        rintro e' w2 ⟨tA, tc, rfl, htc, htr, hb2⟩
        replace hown := hown.later (below_step hb1 hb2)
        obtain ⟨A5, c5, rfl, hc5, hr5⟩ := hown.slice
        go_wp2_with fail
        go_ret2
        exact ⟨us, us.length, A5, c5, tA, tc, rfl, Lib.hid rfl, hc5, htc, hr5, hown.2.1, HC, by rw [← HTG.out]; exact htr, below_step HB.out (below_step hb1 hb2)⟩
      · have HPL := Lib.hid (plI_out _ _ hin)
        have HC : Hid (conT us ++ [(key, msg)] = putT (conT ts) (key, msg)) := by unfold Hid; rw [HCU.out]; exact (if_neg hin).symm
        have HT : Hid (putL (ts.length + 1) = tagT (conT ts) (key, msg)) := by unfold Hid tagT; rw [idx_none _ _ hin, conT_length]
        clear hin
        go_wp2_with fail
        refine (place_anyT ts key msg ts.length key.length msg.length A B C c d e _ (Lib.hid rfl) (Lib.hid rfl) (Lib.hid rfl) (ht.keep HB.out) (HOK.out.keep HB.out) (hk.keep HB.out) (hm.keep HB.out) hp hn hmm).mono ?_
        rintro e' w1 ⟨rfl, hb1⟩
        rw [HPL.out]
        replace hown := hown.later hb1
        replace HB := Lib.hid (below_step HB.out hb1)
        go_wp2_with fail
        refine (copied_any ⟨B, d, key, C, e, msg⟩ _ (hk.keep HB.out) (hm.keep HB.out) hn hmm).mono ?_
        rintro e' w2 ⟨y, rfl, hy, hyc, hyn, hb2⟩
        have hbn := below_new (Below.refl _ w2) (.cells #[y.at0, y.at1] 29)
        have hown4 := hown.later (below_step hb2 hbn)
        have hbase := (below_step HB.out (below_step hb2 hbn)).size
        have hus : us.length + 1 ≤ 1000000001 := by have := HUL.out; omega
        go_upto_region 11 with (at_builtin; refine wpList_append_own_at _ rfl (.tmp 36) (.tmp 41) 22 rfl w.heap.size 29 j0 (.agg #[.slice none 0 0, .slice none 0 0]) 2 48 Try.underlying22 hj gz0 gz1 gz2 rfl (by decide) _ us.length (cellsT us) rfl hown4.1 ⟨w2.heap.size, 0, none⟩ 1 1 y.cells rfl rfl (cells_new _ _ _) (one_two _ _ rfl rfl) (by unfold maxLen; omega) (by omega) hbase ?_; intro v3 w3 hown3 hgrow3 _ hv3)
        have hownF := hown.more hb2 hy hyn hbn hown3 hgrow3 hv3
        have hB3 := (below_step HB.out (below_step hb2 hbn)).grown hgrow3 hbase (fun j hj => (hown.1.lt j hj).1)
        obtain ⟨xs, hxs⟩ : ∃ xs, xs = us ++ [y] := ⟨_, rfl⟩
        have hcx : conT xs = putT (conT ts) (key, msg) := by rw [hxs, conT_snoc, hyc]; exact HC.out
        have hcl : xs.length = ts.length + 1 := by rw [hxs, List.length_append, HUL.out]; rfl
        rw [← hxs] at hownF
        have HCX := Lib.hid hcx
        have HCL := Lib.hid hcl
        clear hxs hcx hcl hown hown4 hown3 hgrow3 hv3 hbase hus hyn hyc hy hbn
        go_wp2_with fail
        refine (tagof_any ts.length _ _ (by omega) HT).mono ?_
        rintro e' w4 ⟨tA, tc, rfl, htc, htr, hb4⟩
        replace hownF := hownF.later hb4
        obtain ⟨A5, c5, rfl, hc5, hr5⟩ := hownF.slice
        go_wp2_with fail
        go_ret2
        exact ⟨xs, xs.length, A5, c5, tA, tc, rfl, Lib.hid rfl, hc5, htc, hr5, hownF.2.1, HCX, htr, below_step hB3 hb4⟩

set_option maxRecDepth 100000 in
set_option maxHeartbeats 1000000 in
theorem of_anyT (ts : List TD) (tag : List UInt8) (p n : Nat) (A B : Option Addr) (c d : Nat) (w : World) (HP : Hid (ts.length = p)) (HN : Hid (tag.length = n)) (HL : Hid (lenT (conT ts))) (ht : RdT w A ts) (hok : okT w ts) (hg : Rd vB w B tag) (hp : p ≤ 1000000000) (hn : n ≤ 1000000000) :
    Calls Try.prog 9 #[.slice A p c, .slice B n d] w (OfRes ts tag w) := by
  have e1 := HP.out
  have e2 := HN.out
  subst e1 e2
  have HOK := Lib.hid hok
  clear hok HP HN
  have hR0 : Row (w.alloc (.cells #[.slice none 0 0, .slice none 0 0] 29)) w.heap.size 29 [.slice none 0 0, .slice none 0 0] := Row.new w _ _ _ rfl
  have hB0 := below_new (Below.refl _ w) (.cells #[.slice none 0 0, .slice none 0 0] 29)
  by_cases h8 : tag.length = 8
  · have HGV : Hid (getR tag = (valN tag, 0)) := by unfold Hid getR; rw [if_pos h8]
    have hv := valN_lt8' tag h8
    have HV : Hid (ofT (conT ts) tag = if 1 ≤ valN tag ∧ valN tag ≤ ts.length then ((conT ts).getD (valN tag - 1) ([], []), 0) else (([], []), 7)) := by unfold Hid ofT; rw [if_neg (by simp [h8]), conT_length]
    generalize valN tag = v at HGV HV hv
    clear h8
    go_enter Try.func9, Try.ntmps9
    go_wp2_with fail
    refine (get_any tag B d _ (hg.keep hB0) (by omega)).mono ?_
    rintro e' w1 ⟨rfl, rfl⟩
    rw [HGV.out]
    have hlw : IntKind.u64.wrap (ts.length : Int) = (ts.length : Int) := by rw [IntKind.wrap_u64]; omega
    by_cases hin : 1 ≤ v ∧ v ≤ ts.length
    · have g1 : ¬ (v : Int) = 0 := by omega
      have g2 : ¬ (ts.length : Int) < (v : Int) := by omega
      have g3 : IntKind.u64.wrap ((v : Int) - 1) = ((v - 1 : Nat) : Int) := by rw [IntKind.wrap_u64]; omega
      have hlt : v - 1 < ts.length := by omega
      obtain ⟨blk, o, rfl, hblk, hcell⟩ := ht.at hlt
      obtain ⟨h0, h1⟩ := hcell _ hlt
      have hx := (HOK.out ts[v - 1] (List.getElem_mem hlt)).keep hB0
      have hlen := lenT.at HL.out (List.getElem_mem hlt)
      have HO : Hid (ofT (conT ts) tag = (ts[v - 1].c, 0)) := by
        unfold Hid
        rw [HV.out, if_pos hin, List.getD_eq_getElem?_getD, List.getElem?_eq_getElem (by rw [conT_length]; exact hlt), conT_get ts _ hlt]
        rfl
      have hc0 : (w.alloc (.cells #[.slice none 0 0, .slice none 0 0] 29)).rangeAt blk (o + (v - 1) * 2) [ts[v - 1].at0, ts[v - 1].at1] := fun j u hu => by
        match j, hu with
        | 0, hu => injection hu with hu; subst hu; exact (hB0.cell (p := ⟨blk, o + (v - 1) * 2, none⟩) hblk).trans h0
        | 1, hu => injection hu with hu; subst hu; exact (hB0.cell (p := ⟨blk, o + (v - 1) * 2 + 1, none⟩) hblk).trans h1
      generalize ts[v - 1] = x at hx hlen HO hc0
      clear h0 h1 hcell HV
      dsimp only
      have HR0 := Lib.hid hR0
      clear hR0
      go_wp2_with (refine wpList_load_mid rfl 29 (.tmp 30) rfl blk (o + (v - 1) * 2) rfl [x.at0, x.at1] _ hc0 Try.underlying29 rfl (by exact size_term) ?_)
      refine (copied_any x _ hx.2.2.1 hx.2.2.2 hlen.1 hlen.2).mono ?_
      rintro e' w2 ⟨y, rfl, hy, hyc, hyn, hb2⟩
      have hR2 := HR0.out.later hb2
      have hB2 := below_step hB0 hb2
      clear HR0 hb2
      go_wp2_with (refine wpList_store_row rfl 29 (.tmp 4) (.tmp 32) rfl w.heap.size rfl [y.at0, y.at1] rfl _ _ hR2 (by exact size_term) rfl (one_two _ _ rfl rfl) ?_)
      refine bodyPost_ret (results_row_tmp (p := 4) (u := 5) (ty := 29) (by rfl) _ _ w.heap.size 29 _ _ (by rfl) (by exact hR2.setRow _) Try.underlying29 (by rfl) (by exact size_term)) (by rfl) ?_
      exact ⟨y, 0, rfl, hy.setRow_row hR2 (fun u hu z => by simp at hu; subst hu; exact slice_no_byte _ _ _ z) _, by unfold Hid; rw [hyc, HO.out], below_setRow hB2 (Nat.le_refl _) _⟩
    · have HO : Hid ((noTD.c, (7 : Int)) = ofT (conT ts) tag) := by unfold Hid; rw [HV.out, if_neg hin]; rfl
      dsimp only
      by_cases hz : v = 0
      · subst hz
        go_wp2_with (refine wpList_store_row rfl 29 (.tmp 4) (.tmp 26) rfl w.heap.size rfl [.slice none 0 0, .slice none 0 0] rfl _ _ hR0 (by exact size_term) rfl (one_two _ _ rfl rfl) ?_)
        refine bodyPost_ret (results_row_tmp (p := 4) (u := 5) (ty := 29) (by rfl) _ _ w.heap.size 29 _ _ (by rfl) (by exact hR0.setRow _) Try.underlying29 (by rfl) (by exact size_term)) (by rfl) ?_
        exact ⟨noTD, 7, rfl, noTD_ok _, HO, below_setRow hB0 (Nat.le_refl _) _⟩
      · have g1 : ¬ (v : Int) = 0 := by omega
        have g2 : (ts.length : Int) < (v : Int) := by omega
        go_wp2_with (refine wpList_store_row rfl 29 (.tmp 4) (.tmp 26) rfl w.heap.size rfl [.slice none 0 0, .slice none 0 0] rfl _ _ hR0 (by exact size_term) rfl (one_two _ _ rfl rfl) ?_)
        refine bodyPost_ret (results_row_tmp (p := 4) (u := 5) (ty := 29) (by rfl) _ _ w.heap.size 29 _ _ (by rfl) (by exact hR0.setRow _) Try.underlying29 (by rfl) (by exact size_term)) (by rfl) ?_
        exact ⟨noTD, 7, rfl, noTD_ok _, HO, below_setRow hB0 (Nat.le_refl _) _⟩
  · have HGV : Hid (getR tag = (0, 1)) := by unfold Hid getR; rw [if_neg h8]
    have HO : Hid ((noTD.c, (1 : Int)) = ofT (conT ts) tag) := by unfold Hid; rw [ofT_bad _ _ h8]; rfl
    clear h8
    go_enter Try.func9, Try.ntmps9
    go_wp2_with fail
    refine (get_any tag B d _ (hg.keep hB0) (by omega)).mono ?_
    rintro e' w1 ⟨rfl, rfl⟩
    rw [HGV.out]
    dsimp only
    go_wp2_with (refine wpList_store_row rfl 29 (.tmp 4) (.tmp 15) rfl w.heap.size rfl [.slice none 0 0, .slice none 0 0] rfl _ _ hR0 (by exact size_term) rfl (one_two _ _ rfl rfl) ?_)
    refine bodyPost_ret (results_row_tmp (p := 4) (u := 5) (ty := 29) (by rfl) _ _ w.heap.size 29 _ _ (by rfl) (by exact hR0.setRow _) Try.underlying29 (by rfl) (by exact size_term)) (by rfl) ?_
    exact ⟨noTD, 1, rfl, noTD_ok _, HO, below_setRow hB0 (Nat.le_refl _) _⟩
end Go.Proofs.Ytppdfldmbfddnaa
